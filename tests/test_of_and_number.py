"""The calls of and number, and E1: digits are the number's."""

import unittest

from helper import HIGHEST_SCORE, LAST_INPUT, LAST_NUMBER, numbers_of_every_length, score_as_read
from pinscores import scores


class OfTest(unittest.TestCase):
    def test_nought(self):
        self.assertEqual(scores.of(0), [0, 0])

    def test_small_numbers(self):
        expected = {1: 0x1, 7: 0x7, 9: 0x9, 10: 0x10, 11: 0x11, 15: 0x15, 16: 0x16,
                    42: 0x42, 90: 0x90, 99: 0x99, 100: 0x100, 909: 0x909, 1000: 0x1000}
        for number, score in expected.items():
            self.assertEqual(scores.of(number), [0, score], number)

    def test_the_number_of_the_document(self):
        self.assertEqual(scores.of(1234567), [0, 0x1234567])

    def test_eleven_digits(self):
        self.assertEqual(scores.of(10000000000), [0, 0x10000000000])
        self.assertEqual(scores.of(12345678901), [0, 0x12345678901])
        self.assertEqual(scores.of(90817263540), [0, 0x90817263540])
        self.assertEqual(scores.of(99999999999), [0, 0x99999999999])

    def test_twelve_digits(self):
        self.assertEqual(scores.of(100000000000), [0, 0x100000000000])
        self.assertEqual(scores.of(123456789012), [0, 0x123456789012])
        self.assertEqual(scores.of(908172635405), [0, 0x908172635405])
        self.assertEqual(scores.of(999999999998), [0, 0x999999999998])

    def test_last_number_that_has_a_score(self):
        self.assertEqual(scores.of(LAST_NUMBER), [0, HIGHEST_SCORE])

    def test_refused_from_ten_to_the_twelfth_on(self):
        self.assertEqual(scores.of(10**12), [-1])
        self.assertEqual(scores.of(10**12 + 1), [-1])
        self.assertEqual(scores.of(LAST_INPUT), [-1])

    def test_refused_far_above(self):
        for number in (HIGHEST_SCORE, 2**48 - 1, 2**48, 10**13, 5 * 10**12 + 7, 2**63, LAST_INPUT - 1):
            self.assertEqual(scores.of(number), [-1], number)

    def test_score_has_the_digits_of_the_number(self):
        for number in numbers_of_every_length():
            self.assertEqual(scores.of(number), [0, score_as_read(number)], number)


class NumberTest(unittest.TestCase):
    def test_nought(self):
        self.assertEqual(scores.number(0), [0, 0])

    def test_small_scores(self):
        for score, number in {0x1: 1, 0x9: 9, 0x10: 10, 0x15: 15, 0x99: 99, 0x100: 100, 0x4096: 4096}.items():
            self.assertEqual(scores.number(score), [0, number], hex(score))

    def test_the_score_of_the_document(self):
        self.assertEqual(scores.number(0x1234567), [0, 1234567])

    def test_highest_score(self):
        self.assertEqual(scores.number(HIGHEST_SCORE), [0, LAST_NUMBER])

    def test_each_place_is_worth_its_power_of_ten(self):
        for place in range(12):
            for digit in range(10):
                self.assertEqual(scores.number(digit * 16**place), [0, digit * 10**place], (place, digit))

    def test_each_digit_by_itself_wrong(self):
        for place in range(12):
            for digit in range(10, 16):
                for around in (0, 0x123456789012, HIGHEST_SCORE):
                    without = around - (around // 16**place % 16) * 16**place
                    wrong = without + digit * 16**place
                    self.assertEqual(scores.number(wrong), [-1], hex(wrong))

    def test_all_whole_numbers_of_four_digits(self):
        for a in range(16**4):
            digits = f"{a:x}"
            expected = [0, int(digits)] if digits.isdigit() else [-1]
            self.assertEqual(scores.number(a), expected, digits)

    def test_refused_from_two_to_the_48th_on(self):
        self.assertEqual(scores.number(2**48 - 1), [-1])
        self.assertEqual(scores.number(2**48), [-1])
        self.assertEqual(scores.number(LAST_INPUT), [-1])

    def test_refused_above_with_lower_digits_all_right(self):
        for lower in (0, 1, 0x1234567, 0x123456789012, HIGHEST_SCORE):
            for bit in range(48, 64):
                self.assertEqual(scores.number(2**bit + lower), [-1], (bit, hex(lower)))
            for above in (0x3, 0x9, 0x10, 0x99, 0x1234, 0x9999, 0xA, 0xFFFF):
                self.assertEqual(scores.number(above * 2**48 + lower), [-1], (hex(above), hex(lower)))


class DigitsAreTheNumbersTest(unittest.TestCase):
    def test_number_undoes_of(self):
        for number in numbers_of_every_length():
            answer = scores.of(number)
            self.assertEqual(len(answer), 2, number)
            self.assertEqual(scores.number(answer[1]), [0, number])

    def test_of_undoes_number(self):
        for number in numbers_of_every_length():
            score = score_as_read(number)
            answer = scores.number(score)
            self.assertEqual(len(answer), 2, hex(score))
            self.assertEqual(scores.of(answer[1]), [0, score])

    def test_numbers_tried_are_of_every_length(self):
        lengths = [len(str(number)) for number in numbers_of_every_length()]
        for length in range(1, 13):
            self.assertGreaterEqual(lengths.count(length), 10, length)
        self.assertEqual(max(lengths), 12)


if __name__ == "__main__":
    unittest.main()
