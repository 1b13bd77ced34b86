"""The calls of and number, and E1: digits are the number's."""

import contextlib
import inspect
import io
import unittest

from pinscores import scores

LAST_NUMBER = 10**12 - 1
HIGHEST_SCORE = 0x999999999999
LAST_INPUT = 2**64 - 1


def numbers_of_every_length():
    """Some hundred numbers of each length, 1 to 12 digits, both ends of each among them."""
    found = list(range(1000))
    for length in range(4, 13):
        low, high = 10 ** (length - 1), 10**length
        step = (high - low) // 499
        found.extend(range(low, high, step))
        found.extend([low + 1, high - 2, high - 1])
        # Each digit by itself at each place, with noughts and with nines about it.
        for digit in range(1, 10):
            found.append(digit * low)
            found.extend(high - 1 - digit * 10**place for place in range(length))
    return found


def score_as_read(number):
    """The score by Python's own reading of digits, not by the program's."""
    return int(str(number), 16)


class OfTest(unittest.TestCase):
    def test_nought(self):
        self.assertEqual(scores.of(0), [0, 0])

    def test_small_numbers(self):
        expected = {1: 0x1, 7: 0x7, 9: 0x9, 10: 0x10, 11: 0x11, 15: 0x15, 16: 0x16,
                    42: 0x42, 90: 0x90, 99: 0x99, 100: 0x100, 909: 0x909, 1000: 0x1000}
        for number, score in expected.items():
            self.assertEqual(scores.of(number), [0, score], number)

    def test_the_number_of_the_document(self):
        self.assertEqual(scores.of(1234567), [0, 0x1234567])

    def test_eleven_digits(self):
        self.assertEqual(scores.of(10000000000), [0, 0x10000000000])
        self.assertEqual(scores.of(12345678901), [0, 0x12345678901])
        self.assertEqual(scores.of(90817263540), [0, 0x90817263540])
        self.assertEqual(scores.of(99999999999), [0, 0x99999999999])

    def test_twelve_digits(self):
        self.assertEqual(scores.of(100000000000), [0, 0x100000000000])
        self.assertEqual(scores.of(123456789012), [0, 0x123456789012])
        self.assertEqual(scores.of(908172635405), [0, 0x908172635405])
        self.assertEqual(scores.of(999999999998), [0, 0x999999999998])

    def test_last_number_that_has_a_score(self):
        self.assertEqual(scores.of(LAST_NUMBER), [0, HIGHEST_SCORE])

    def test_refused_from_ten_to_the_twelfth_on(self):
        self.assertEqual(scores.of(10**12), [-1])
        self.assertEqual(scores.of(10**12 + 1), [-1])
        self.assertEqual(scores.of(LAST_INPUT), [-1])

    def test_refused_far_above(self):
        for number in (HIGHEST_SCORE, 2**48 - 1, 2**48, 10**13, 5 * 10**12 + 7, 2**63, LAST_INPUT - 1):
            self.assertEqual(scores.of(number), [-1], number)

    def test_score_has_the_digits_of_the_number(self):
        for number in numbers_of_every_length():
            self.assertEqual(scores.of(number), [0, score_as_read(number)], number)


class NumberTest(unittest.TestCase):
    def test_nought(self):
        self.assertEqual(scores.number(0), [0, 0])

    def test_small_scores(self):
        for score, number in {0x1: 1, 0x9: 9, 0x10: 10, 0x15: 15, 0x99: 99, 0x100: 100, 0x4096: 4096}.items():
            self.assertEqual(scores.number(score), [0, number], hex(score))

    def test_the_score_of_the_document(self):
        self.assertEqual(scores.number(0x1234567), [0, 1234567])

    def test_highest_score(self):
        self.assertEqual(scores.number(HIGHEST_SCORE), [0, LAST_NUMBER])

    def test_each_place_is_worth_its_power_of_ten(self):
        for place in range(12):
            for digit in range(10):
                self.assertEqual(scores.number(digit * 16**place), [0, digit * 10**place], (place, digit))

    def test_each_digit_by_itself_wrong(self):
        for place in range(12):
            for digit in range(10, 16):
                for around in (0, 0x123456789012, HIGHEST_SCORE):
                    without = around - (around // 16**place % 16) * 16**place
                    wrong = without + digit * 16**place
                    self.assertEqual(scores.number(wrong), [-1], hex(wrong))

    def test_all_whole_numbers_of_four_digits(self):
        for a in range(16**4):
            digits = f"{a:x}"
            expected = [0, int(digits)] if digits.isdigit() else [-1]
            self.assertEqual(scores.number(a), expected, digits)

    def test_refused_from_two_to_the_48th_on(self):
        self.assertEqual(scores.number(2**48 - 1), [-1])
        self.assertEqual(scores.number(2**48), [-1])
        self.assertEqual(scores.number(LAST_INPUT), [-1])

    def test_refused_above_with_lower_digits_all_right(self):
        for lower in (0, 1, 0x1234567, 0x123456789012, HIGHEST_SCORE):
            for bit in range(48, 64):
                self.assertEqual(scores.number(2**bit + lower), [-1], (bit, hex(lower)))
            for above in (0x3, 0x9, 0x10, 0x99, 0x1234, 0x9999, 0xA, 0xFFFF):
                self.assertEqual(scores.number(above * 2**48 + lower), [-1], (hex(above), hex(lower)))


class DigitsAreTheNumbersTest(unittest.TestCase):
    def test_number_undoes_of(self):
        for number in numbers_of_every_length():
            answer = scores.of(number)
            self.assertEqual(len(answer), 2, number)
            self.assertEqual(scores.number(answer[1]), [0, number])

    def test_of_undoes_number(self):
        for number in numbers_of_every_length():
            score = score_as_read(number)
            answer = scores.number(score)
            self.assertEqual(len(answer), 2, hex(score))
            self.assertEqual(scores.of(answer[1]), [0, score])

    def test_numbers_tried_are_of_every_length(self):
        lengths = [len(str(number)) for number in numbers_of_every_length()]
        for length in range(1, 13):
            self.assertGreaterEqual(lengths.count(length), 10, length)
        self.assertEqual(max(lengths), 12)


class InterfaceTest(unittest.TestCase):
    calls = (
        (scores.of, (0, 1, 7, 1234567, LAST_NUMBER, 10**12, LAST_INPUT)),
        (scores.number, (0, 1, 0xA, 0x1234567, HIGHEST_SCORE, 2**48, LAST_INPUT)),
    )

    def test_names_of_the_arguments(self):
        self.assertEqual(list(inspect.signature(scores.of).parameters), ["number"])
        self.assertEqual(list(inspect.signature(scores.number).parameters), ["a"])
        self.assertEqual(scores.of(number=12), [0, 0x12])
        self.assertEqual(scores.number(a=0x12), [0, 12])

    def test_answer_is_a_list_of_whole_numbers(self):
        for call, values in self.calls:
            for value in values:
                answer = call(value)
                self.assertIs(type(answer), list)
                self.assertEqual([type(each) for each in answer], [int] * len(answer))

    def test_refusal_stands_alone_and_else_two_numbers_stand(self):
        for call, values in self.calls:
            for value in values:
                answer = call(value)
                self.assertEqual(len(answer), 1 if answer[0] < 0 else 2, value)

    def test_answer_is_a_new_list_each_time(self):
        for call, values in self.calls:
            for value in values:
                first = call(value)
                kept = list(first)
                second = call(value)
                self.assertIsNot(first, second)
                first.append(5)
                first[0] = 99
                self.assertEqual(second, kept)
                self.assertEqual(call(value), kept)

    def test_nothing_is_kept_between_calls(self):
        for call, values in self.calls:
            forward = [call(value) for value in values]
            backward = [call(value) for value in reversed(values)]
            self.assertEqual(forward, list(reversed(backward)))

    def test_nothing_is_printed(self):
        out, err = io.StringIO(), io.StringIO()
        with contextlib.redirect_stdout(out), contextlib.redirect_stderr(err):
            for call, values in self.calls:
                for value in values:
                    call(value)
        self.assertEqual((out.getvalue(), err.getvalue()), ("", ""))


if __name__ == "__main__":
    unittest.main()
