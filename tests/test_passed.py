"""The call passed, and E5: each level is passed once for each time that the number goes over it."""

import unittest

from helper import (HIGHEST_SCORE, LAST_INPUT, LAST_NUMBER, NO_SCORES, Untouchable, score_as_read,
                    some_numbers_of_every_length)
from pinscores import scores


def passed_by_numbers(start, added, levels):
    return scores.passed(score_as_read(start), score_as_read(added), [score_as_read(level) for level in levels])


def count_as_reckoned(start, added, levels):
    """Each level stands at its number, and again each 10^12 further on: count those gone over."""
    end = start + added
    stands = [level + turn * 10**12 for level in levels for turn in range(3)]
    return sum(1 for stand in stands if start < stand <= end)


def rising_levels(length):
    """Some levels from 1 to the highest score, as many as asked for."""
    step = LAST_NUMBER // length
    return [LAST_NUMBER - step * back for back in reversed(range(length))]


class PassedTest(unittest.TestCase):
    def test_no_levels(self):
        for a, b in ((0, 0), (0, HIGHEST_SCORE), (0x1234567, 0x1), (HIGHEST_SCORE, HIGHEST_SCORE)):
            self.assertEqual(scores.passed(a, b, []), [0, 0])

    def test_one_level(self):
        self.assertEqual(scores.passed(0x90, 0x20, [0x100]), [0, 1])
        self.assertEqual(scores.passed(0x90, 0x05, [0x100]), [0, 0])
        self.assertEqual(scores.passed(0x100, 0x20, [0x100]), [0, 0])

    def test_lowest_and_highest_level(self):
        self.assertEqual(scores.passed(0, 1, [1]), [0, 1])
        self.assertEqual(scores.passed(0, 0, [1]), [0, 0])
        self.assertEqual(scores.passed(0, HIGHEST_SCORE, [HIGHEST_SCORE]), [0, 1])
        self.assertEqual(scores.passed(0x999999999998, 1, [HIGHEST_SCORE]), [0, 1])
        self.assertEqual(scores.passed(HIGHEST_SCORE, 1, [HIGHEST_SCORE]), [0, 0])

    def test_level_about_the_number_of_a(self):
        for number in (2, 10, 100, 1000000, 499999999999, 999999999000):
            self.assertEqual(passed_by_numbers(number, 5, [number - 1]), [0, 0], number)
            self.assertEqual(passed_by_numbers(number, 5, [number]), [0, 0], number)
            self.assertEqual(passed_by_numbers(number, 5, [number + 1]), [0, 1], number)

    def test_level_about_the_sum(self):
        for number in (0, 1, 95, 1000000, 499999999999):
            for added in (1, 5, 10, 499999999999):
                end = number + added
                self.assertEqual(passed_by_numbers(number, added, [end]), [0, 1], (number, added))
                self.assertEqual(passed_by_numbers(number, added, [end + 1]), [0, 0], (number, added))

    def test_level_between(self):
        self.assertEqual(passed_by_numbers(1000, 9000, [500, 1000, 1001, 5000, 9999, 10000, 10001]), [0, 4])

    def test_nothing_added(self):
        for number in (0, 1, 99, 1000000, LAST_NUMBER):
            levels = [level for level in (number - 1, number, number + 1) if 0 < level <= LAST_NUMBER]
            self.assertEqual(passed_by_numbers(number, 0, levels), [0, 0], number)

    def test_digits_are_compared_as_numbers(self):
        # 0x0A to 0x0F lie between these scores, but no number does.
        self.assertEqual(scores.passed(0x09, 0x01, [0x10]), [0, 1])
        self.assertEqual(scores.passed(0x08, 0x05, [0x10, 0x13, 0x14]), [0, 2])

    def test_sum_just_below_ten_to_the_twelfth(self):
        self.assertEqual(passed_by_numbers(999999999990, 9, [1, 999999999990, 999999999991, LAST_NUMBER]), [0, 2])

    def test_sum_at_ten_to_the_twelfth(self):
        self.assertEqual(passed_by_numbers(999999999990, 10, [1, 999999999990, 999999999991, LAST_NUMBER]), [0, 2])

    def test_sum_just_above_ten_to_the_twelfth(self):
        self.assertEqual(passed_by_numbers(999999999990, 11, [1, 2, 999999999990, LAST_NUMBER]), [0, 2])
        self.assertEqual(passed_by_numbers(999999999990, 12, [1, 2, 999999999990, LAST_NUMBER]), [0, 3])

    def test_passed_only_before_rolling_over(self):
        self.assertEqual(passed_by_numbers(900000000000, 200000000000, [950000000000]), [0, 1])
        self.assertEqual(passed_by_numbers(900000000000, 200000000000, [900000000001, LAST_NUMBER]), [0, 2])

    def test_passed_only_after_rolling_over(self):
        self.assertEqual(passed_by_numbers(900000000000, 200000000000, [1]), [0, 1])
        self.assertEqual(passed_by_numbers(900000000000, 200000000000, [50, 100000000000]), [0, 2])
        self.assertEqual(passed_by_numbers(900000000000, 200000000000, [100000000001, 900000000000]), [0, 0])

    def test_passed_before_and_after_rolling_over(self):
        levels = [1, 100000000000, 100000000001, 900000000000, 900000000001, LAST_NUMBER]
        self.assertEqual(passed_by_numbers(900000000000, 200000000000, levels), [0, 4])

    def test_every_level_but_where_it_stood_when_almost_a_whole_round_is_added(self):
        # b is less than a whole round, so no level is gone over twice.
        for number in (1, 500000000000, LAST_NUMBER):
            levels = [1, 2, 499999999999, 500000000000, 500000000001, 999999999998, LAST_NUMBER]
            self.assertEqual(passed_by_numbers(number, LAST_NUMBER, levels), [0, len(levels) - 1], number)
            self.assertEqual(passed_by_numbers(number, LAST_NUMBER, [number]), [0, 0], number)

    def test_256_levels(self):
        levels = [score_as_read(level) for level in range(1, 257)]
        self.assertEqual(scores.passed(0, 0x256, levels), [0, 256])
        self.assertEqual(scores.passed(0, 0x255, levels), [0, 255])
        self.assertEqual(scores.passed(0x100, 0x100, levels), [0, 100])
        self.assertEqual(scores.passed(HIGHEST_SCORE, HIGHEST_SCORE, levels), [0, 256])


class PassedRefusesTest(unittest.TestCase):
    right = (0x10, 0x200, 0x3000, 0x40000, 0x500000)

    def test_more_than_256_levels(self):
        for length in (257, 258, 400):
            levels = [score_as_read(level) for level in rising_levels(length)]
            self.assertEqual(len(levels), length)
            self.assertEqual(scores.passed(0, 1, levels), [-2], length)

    def test_more_than_256_levels_before_all_else(self):
        for length in (257, 400):
            levels = [score_as_read(level) for level in rising_levels(length)]
            for a, b in ((0xA, 1), (1, 0xA), (LAST_INPUT, LAST_INPUT)):
                self.assertEqual(scores.passed(a, b, levels), [-2], (length, a, b))
            for wrong in ([0] * length, [5] * length, list(reversed(levels)), [0xA] + levels[1:],
                          levels[:-1] + [LAST_INPUT], levels[:100] + [0] + levels[101:]):
                self.assertEqual(len(wrong), length)
                self.assertEqual(scores.passed(0, 1, wrong), [-2], length)
                self.assertEqual(scores.passed(0xA, 2**48, wrong), [-2], length)

    def test_a_or_b_that_is_no_score(self):
        for wrong in NO_SCORES:
            for levels in ([], [1], list(self.right)):
                self.assertEqual(scores.passed(wrong, 1, levels), [-1], hex(wrong))
                self.assertEqual(scores.passed(1, wrong, levels), [-1], hex(wrong))
                self.assertEqual(scores.passed(wrong, wrong, levels), [-1], hex(wrong))

    def test_level_that_is_no_score_at_each_place(self):
        for wrong in NO_SCORES:
            self.assertEqual(scores.passed(0, 1, [wrong]), [-1], hex(wrong))
        for place in range(len(self.right)):
            for wrong in (LAST_INPUT, 2**48, self.right[place] + 0xA):
                levels = list(self.right)
                levels[place] = wrong
                self.assertEqual(scores.passed(0, 1, levels), [-1], (place, hex(wrong)))

    def test_only_what_is_no_score_is_wrong_in_a_rising_row(self):
        self.assertEqual(scores.passed(0, 1, [0xA, 0x10, 0x11]), [-1])
        self.assertEqual(scores.passed(0, 1, [0x9, 0xA, 0x10]), [-1])
        self.assertEqual(scores.passed(0, 1, [0x9, 0x10, 0x1A]), [-1])
        self.assertEqual(scores.passed(0, 1, [0x9, 0x10, 2**48]), [-1])

    def test_level_nought(self):
        self.assertEqual(scores.passed(0, 1, [0]), [-1])
        self.assertEqual(scores.passed(0, 1, [0, 1]), [-1])
        self.assertEqual(scores.passed(5, 5, [0, 7, 8]), [-1])
        self.assertEqual(scores.passed(5, 5, [7, 0, 8]), [-1])
        self.assertEqual(scores.passed(5, 5, [7, 8, 0]), [-1])

    def test_levels_that_are_the_same(self):
        self.assertEqual(scores.passed(0, 1, [1, 1]), [-1])
        self.assertEqual(scores.passed(0, 1, [HIGHEST_SCORE, HIGHEST_SCORE]), [-1])
        for place in range(len(self.right) - 1):
            levels = list(self.right)
            levels[place + 1] = levels[place]
            self.assertEqual(scores.passed(0, 1, levels), [-1], place)

    def test_levels_that_fall(self):
        self.assertEqual(scores.passed(0, 1, [2, 1]), [-1])
        self.assertEqual(scores.passed(0, 1, list(reversed(self.right))), [-1])
        for place in range(len(self.right) - 1):
            levels = list(self.right)
            levels[place], levels[place + 1] = levels[place + 1], levels[place]
            self.assertEqual(scores.passed(0, 1, levels), [-1], place)

    def test_wrong_levels_that_are_not_reached(self):
        self.assertEqual(scores.passed(0, 0, [0x500, 0x400]), [-1])
        self.assertEqual(scores.passed(0, 5, [0x6, 0x7, 0x7]), [-1])
        self.assertEqual(scores.passed(0x900, 5, [0x6, 0x6, 0x7]), [-1])

    def test_one_wrong_level_in_256(self):
        right = [score_as_read(level) for level in range(1, 257)]
        for place in (0, 1, 127, 254, 255):
            for wrong in (0, 0xF, LAST_INPUT):
                levels = list(right)
                levels[place] = wrong
                self.assertEqual(scores.passed(0, 1, levels), [-1], (place, wrong))


class EachLevelIsPassedOnceForEachTimeTest(unittest.TestCase):
    def test_many_scores_with_one_row(self):
        numbers = some_numbers_of_every_length()
        levels = sorted(set(numbers) - {0})
        for start in numbers:
            for added in numbers:
                expected = [0, count_as_reckoned(start, added, levels)]
                self.assertEqual(passed_by_numbers(start, added, levels), expected, (start, added))

    def test_each_level_by_itself(self):
        numbers = (1, 2, 9, 10, 99, 1234567, 500000000000, 765432109876, 999999999998, LAST_NUMBER)
        for start in (0,) + numbers:
            for added in (0,) + numbers:
                for level in numbers:
                    expected = [0, count_as_reckoned(start, added, [level])]
                    self.assertEqual(passed_by_numbers(start, added, [level]), expected, (start, added, level))

    def test_rows_of_every_length(self):
        for length in range(1, 257):
            levels = rising_levels(length)
            start = length * 7919000011 % 10**12
            added = length * 104729000057 % 10**12
            expected = [0, count_as_reckoned(start, added, levels)]
            self.assertEqual(passed_by_numbers(start, added, levels), expected, length)

    def test_added_bit_by_bit_the_same_levels_are_passed(self):
        levels = [score_as_read(level) for level in rising_levels(40)]
        for step in (0x7654321, 0x123456789012, 0x600000000001, HIGHEST_SCORE):
            score, count, total, first = 0x31415926535, 0, 0, 31415926535
            for turn in range(30):
                count += scores.passed(score, step, levels)[1]
                score = scores.add(score, step)[1]
                total += int(f"{step:x}")
            stands = [level + turn * 10**12 for level in rising_levels(40) for turn in range(31)]
            self.assertEqual(count, sum(1 for stand in stands if first < stand <= first + total), hex(step))


class LevelsAreNotChangedTest(unittest.TestCase):
    rows = ([], [1], [0x10, 0x200, 0x3000], [3, 2, 1], [5, 5], [0], [LAST_INPUT], list(range(1, 10)) * 30, [7] * 400)

    def test_levels_are_the_same_behind_the_call(self):
        for row in self.rows:
            levels = list(row)
            scores.passed(HIGHEST_SCORE, 0x500, levels)
            self.assertEqual(levels, row)

    def test_levels_are_not_changed_for_a_while_either(self):
        for row in self.rows:
            self.assertEqual(scores.passed(0, 0x500, Untouchable(row)), scores.passed(0, 0x500, list(row)))


if __name__ == "__main__":
    unittest.main()
