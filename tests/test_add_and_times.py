"""The calls add and times, and E2: sums and products are the numbers', rolled over."""

import unittest

from helper import (HIGHEST_SCORE, LAST_INPUT, LAST_NUMBER, NO_SCORES, numbers_of_every_length, score_as_read,
                    some_numbers_of_every_length)
from pinscores import scores

SOME_SCORES = (0, 1, 0x9, 0x1234567, 0x500000000000, HIGHEST_SCORE)


def sum_as_reckoned(first, second):
    total = first + second
    if total >= 10**12:
        return [0, score_as_read(total - 10**12), 1]
    return [0, score_as_read(total), 0]


def product_as_reckoned(number, m):
    rolled, rest = divmod(number * m, 10**12)
    return [0, score_as_read(rest), rolled]


class AddTest(unittest.TestCase):
    def test_nought_and_nought(self):
        self.assertEqual(scores.add(0, 0), [0, 0, 0])

    def test_small_scores(self):
        for a, b, total in ((0, 1, 0x1), (1, 0, 0x1), (1, 1, 0x2), (4, 5, 0x9), (0x12, 0x34, 0x46),
                            (0x123, 0x456, 0x579), (0x1234567, 0x7654321, 0x8888888)):
            self.assertEqual(scores.add(a, b), [0, total, 0], (hex(a), hex(b)))

    def test_carry_through_one_digit(self):
        for a, b, total in ((5, 5, 0x10), (9, 1, 0x10), (9, 9, 0x18), (0x15, 0x16, 0x31), (0x80, 0x30, 0x110),
                            (0x500, 0x500, 0x1000), (0x90000000000, 0x10000000000, 0x100000000000)):
            self.assertEqual(scores.add(a, b), [0, total, 0], (hex(a), hex(b)))

    def test_carry_through_many_digits(self):
        for places in range(1, 12):
            nines = int("9" * places, 16)
            self.assertEqual(scores.add(nines, 1), [0, 16**places, 0], places)
            self.assertEqual(scores.add(1, nines), [0, 16**places, 0], places)

    def test_carry_through_all_twelve_digits(self):
        self.assertEqual(scores.add(HIGHEST_SCORE, 1), [0, 0, 1])
        self.assertEqual(scores.add(1, HIGHEST_SCORE), [0, 0, 1])
        self.assertEqual(scores.add(0x123456789012, 0x876543210988), [0, 0, 1])

    def test_sum_of_the_last_number_does_not_roll_over(self):
        for a in SOME_SCORES:
            rest = HIGHEST_SCORE - a
            self.assertEqual(scores.add(a, rest), [0, HIGHEST_SCORE, 0], hex(a))

    def test_sum_of_ten_to_the_twelfth_rolls_over_to_nought(self):
        for number in (1, 2, 9, 10, 499999999999, 500000000000, 999999999990, LAST_NUMBER):
            a, b = score_as_read(number), score_as_read(10**12 - number)
            self.assertEqual(scores.add(a, b), [0, 0, 1], number)

    def test_sum_of_one_more_rolls_over_to_one(self):
        for number in (2, 3, 10, 500000000000, 999999999990, LAST_NUMBER):
            a, b = score_as_read(number), score_as_read(10**12 + 1 - number)
            self.assertEqual(scores.add(a, b), [0, 1, 1], number)

    def test_highest_score_with_itself(self):
        self.assertEqual(scores.add(HIGHEST_SCORE, HIGHEST_SCORE), [0, 0x999999999998, 1])

    def test_rolled_over_is_a_whole_number(self):
        for b, rolled in ((0, 0), (1, 1)):
            answer = scores.add(HIGHEST_SCORE, b)
            self.assertIs(type(answer[2]), int)
            self.assertEqual(answer[2], rolled)

    def test_a_that_is_no_score(self):
        for a in NO_SCORES:
            for b in SOME_SCORES:
                self.assertEqual(scores.add(a, b), [-1], (hex(a), hex(b)))

    def test_b_that_is_no_score(self):
        for b in NO_SCORES:
            for a in SOME_SCORES:
                self.assertEqual(scores.add(a, b), [-1], (hex(a), hex(b)))

    def test_both_no_scores(self):
        for a in NO_SCORES:
            for b in NO_SCORES:
                self.assertEqual(scores.add(a, b), [-1], (hex(a), hex(b)))


class TimesTest(unittest.TestCase):
    def test_by_nought(self):
        for a in SOME_SCORES:
            self.assertEqual(scores.times(a, 0), [0, 0, 0], hex(a))

    def test_by_one(self):
        for a in SOME_SCORES:
            self.assertEqual(scores.times(a, 1), [0, a, 0], hex(a))

    def test_by_two(self):
        for a, product, rolled in ((0, 0, 0), (4, 0x8, 0), (5, 0x10, 0), (0x1234567, 0x2469134, 0),
                                   (0x499999999999, 0x999999999998, 0), (0x500000000000, 0, 1),
                                   (0x500000000001, 2, 1), (HIGHEST_SCORE, 0x999999999998, 1)):
            self.assertEqual(scores.times(a, 2), [0, product, rolled], hex(a))

    def test_by_255(self):
        for a, product, rolled in ((0, 0, 0), (1, 0x255, 0), (0x100, 0x25500, 0), (0x100000000000, 0x500000000000, 25)):
            self.assertEqual(scores.times(a, 255), [0, product, rolled], hex(a))

    def test_multiplier_is_a_plain_number_not_a_score(self):
        self.assertEqual(scores.times(1, 16), [0, 0x16, 0])
        self.assertEqual(scores.times(1, 10), [0, 0x10, 0])

    def test_highest_score_by_255(self):
        self.assertEqual(scores.times(HIGHEST_SCORE, 255), [0, 0x999999999745, 254])

    def test_just_below_ten_to_the_twelfth(self):
        self.assertEqual(scores.times(0x333333333333, 3), [0, HIGHEST_SCORE, 0])
        self.assertEqual(scores.times(0x111111111111, 9), [0, HIGHEST_SCORE, 0])
        self.assertEqual(scores.times(0x249999999999, 4), [0, 0x999999999996, 0])

    def test_at_ten_to_the_twelfth_and_multiples_of_it(self):
        for a, m, rolled in ((0x500000000000, 2, 1), (0x250000000000, 4, 1), (0x200000000000, 5, 1),
                             (0x100000000000, 10, 1), (0x10000000000, 100, 1), (0x500000000000, 4, 2),
                             (0x100000000000, 30, 3), (0x500000000000, 254, 127), (0x800000000000, 255, 204),
                             (0x100000000000, 250, 25), (0x4000000000, 250, 1)):
            self.assertEqual(scores.times(a, m), [0, 0, rolled], (hex(a), m))

    def test_just_above_ten_to_the_twelfth(self):
        self.assertEqual(scores.times(0x333333333334, 3), [0, 2, 1])
        self.assertEqual(scores.times(0x142857142858, 7), [0, 6, 1])
        self.assertEqual(scores.times(0x76923076924, 13), [0, 0x12, 1])

    def test_just_below_and_above_a_multiple(self):
        for m in range(2, 256):
            for multiple in range(1, m):
                below = (multiple * 10**12 - 1) // m
                for number in (below, below + 1):
                    expected = product_as_reckoned(number, m)
                    self.assertEqual(scores.times(score_as_read(number), m), expected, (number, m))

    def test_a_that_is_no_score(self):
        for a in NO_SCORES:
            for m in (0, 1, 2, 255):
                self.assertEqual(scores.times(a, m), [-1], (hex(a), m))

    def test_m_above_255(self):
        for m in (256, 257, 511, 512, 1000, 2**16, 2**32, 2**48, 2**63, LAST_INPUT - 1, LAST_INPUT):
            for a in SOME_SCORES:
                self.assertEqual(scores.times(a, m), [-1], (hex(a), m))

    def test_both_wrong(self):
        for a in NO_SCORES:
            for m in (256, LAST_INPUT):
                self.assertEqual(scores.times(a, m), [-1], (hex(a), m))


class SumsAndProductsAreTheNumbersTest(unittest.TestCase):
    def test_sums_of_each_with_each(self):
        for first in some_numbers_of_every_length():
            for second in some_numbers_of_every_length():
                answer = scores.add(score_as_read(first), score_as_read(second))
                self.assertEqual(answer, sum_as_reckoned(first, second), (first, second))

    def test_sums_of_many(self):
        tried = numbers_of_every_length()
        for at, first in enumerate(tried):
            second = tried[(at * 7919 + 13) % len(tried)]
            answer = scores.add(score_as_read(first), score_as_read(second))
            self.assertEqual(answer, sum_as_reckoned(first, second), (first, second))

    def test_products_with_every_multiplier(self):
        for number in some_numbers_of_every_length():
            for m in range(256):
                answer = scores.times(score_as_read(number), m)
                self.assertEqual(answer, product_as_reckoned(number, m), (number, m))

    def test_products_of_many(self):
        for at, number in enumerate(numbers_of_every_length()):
            m = at * 101 % 256
            answer = scores.times(score_as_read(number), m)
            self.assertEqual(answer, product_as_reckoned(number, m), (number, m))

    def test_a_product_is_a_sum_of_that_many(self):
        for number in (7, 1234567, 98765432109, 500000000001, LAST_NUMBER):
            score = score_as_read(number)
            total, rolled = 0, 0
            for m in range(256):
                self.assertEqual(scores.times(score, m), [0, total, rolled], (number, m))
                answer = scores.add(total, score)
                total, rolled = answer[1], rolled + answer[2]


if __name__ == "__main__":
    unittest.main()
