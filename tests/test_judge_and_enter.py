"""The calls judge and enter, and E4: the best stay in order; who comes in stands behind those as high."""

import unittest

from helper import HIGHEST_SCORE, LAST_INPUT, NO_SCORES, Untouchable, score_as_read, some_numbers_of_every_length
from pinscores import scores

FALLING = (0x999999999999, 0x1234567, 0x1000000, 0x900000, 0x50000, 0x4000, 0x300, 0x20)
RIGHT_LETTERS = list(range(65, 91)) + [32]
WRONG_LETTERS = (0, 1, 10, 31, 33, 48, 64, 91, 96, 97, 122, 127, 128, 160, 193, 218, 254, 255)
NEW = [78, 69, 87]


def row_of(entry_scores):
    """Each entry with letters of its own, so that it is seen where it goes."""
    row = []
    for at, score in enumerate(entry_scores):
        row += [score, 65 + at, 90 - at, 32]
    return row


def entries_of(row):
    return [tuple(row[at:at + 4]) for at in range(0, len(row), 4)]


def changed(row, at, value):
    return row[:at] + [value] + row[at + 1:]


def entered_as_told(score, best, letters):
    """Python's own sort leaves those as high in their order, so the new one, set last, stands behind them."""
    entries = entries_of(best) + [(score, *letters, "new")]
    ordered = sorted(entries, key=lambda entry: -int(f"{entry[0]:x}"))
    place = [len(entry) for entry in ordered].index(5)
    if place == 8:
        return [-4]
    return [0, place] + [number for entry in ordered[:8] for number in entry[:4]]


def wrong_rows():
    right = row_of(FALLING)
    rows = [[], right[:4], right[:28], right + [0, 65, 65, 65], right + right, (right * 13)[:400]]
    for entry in range(8):
        rows += [changed(right, entry * 4, wrong) for wrong in NO_SCORES]
        for place in (1, 2, 3):
            rows += [changed(right, entry * 4 + place, wrong) for wrong in WRONG_LETTERS]
    for entry in range(1, 8):
        # One above the entry before, the rest as it was.
        rows.append(row_of([0x20] * entry + [0x21] + [0x20] * (7 - entry)))
        rows.append(row_of(FALLING[:entry - 1] + (FALLING[entry], FALLING[entry - 1]) + FALLING[entry + 1:]))
    return rows


class JudgeTest(unittest.TestCase):
    def test_a_right_row(self):
        self.assertEqual(scores.judge(row_of(FALLING)), [0])

    def test_scores_all_the_same(self):
        for score in (0, 1, 0x1234567, HIGHEST_SCORE):
            self.assertEqual(scores.judge(row_of([score] * 8)), [0], hex(score))

    def test_some_scores_the_same(self):
        for entry in range(1, 8):
            same = FALLING[:entry] + (FALLING[entry - 1],) + FALLING[entry + 1:]
            self.assertEqual(scores.judge(row_of(same)), [0], entry)
            self.assertEqual(scores.judge(row_of([0x21] * entry + [0x20] * (8 - entry))), [0], entry)

    def test_right_letters_at_every_place(self):
        right = row_of(FALLING)
        for letter in RIGHT_LETTERS:
            for entry in range(8):
                for place in (1, 2, 3):
                    self.assertEqual(scores.judge(changed(right, entry * 4 + place, letter)), [0], (letter, entry, place))

    def test_all_letters_the_same(self):
        for letter in (65, 90, 32):
            row = [number for score in FALLING for number in (score, letter, letter, letter)]
            self.assertEqual(scores.judge(row), [0], letter)

    def test_wrong_lengths(self):
        for length in (0, 1, 2, 7, 9, 10, 16, 100):
            row = row_of([0x20] * min(length, 8)) + [0x20, 65, 65, 65] * max(length - 8, 0)
            self.assertEqual(len(row), length * 4)
            self.assertEqual(scores.judge(row), [-8], length)

    def test_score_that_is_none(self):
        for entry in range(8):
            for wrong in NO_SCORES:
                row = changed(row_of(FALLING), entry * 4, wrong)
                self.assertEqual(scores.judge(row), [-8], (entry, hex(wrong)))

    def test_score_that_is_none_where_the_row_falls(self):
        for entry in range(8):
            falling = [0x90] * entry + [0x8A] + [0x80] * (7 - entry)
            self.assertEqual(scores.judge(row_of(falling)), [-8], entry)
        self.assertEqual(scores.judge(row_of([2**48] + [0x20] * 7)), [-8])
        self.assertEqual(scores.judge(row_of([0xA] * 8)), [-8])

    def test_wrong_letters_at_every_place(self):
        for wrong in WRONG_LETTERS:
            for entry in range(8):
                for place in (1, 2, 3):
                    row = changed(row_of(FALLING), entry * 4 + place, wrong)
                    self.assertEqual(scores.judge(row), [-8], (wrong, entry, place))

    def test_every_letter_that_is_a_byte(self):
        for letter in range(256):
            expected = [0] if letter in RIGHT_LETTERS else [-8]
            self.assertEqual(scores.judge(changed(row_of(FALLING), 2, letter)), expected, letter)

    def test_score_above_the_one_before(self):
        for entry in range(1, 8):
            self.assertEqual(scores.judge(row_of([0x20] * entry + [0x21] + [0x20] * (7 - entry))), [-8], entry)
            self.assertEqual(scores.judge(row_of([0x20] * entry + [0x21] * (8 - entry))), [-8], entry)
            self.assertEqual(scores.judge(row_of([0x30] * (entry - 1) + [0] + [1] * (8 - entry))), [-8], entry)

    def test_rising_row(self):
        self.assertEqual(scores.judge(row_of(tuple(reversed(FALLING)))), [-8])


class EnterTest(unittest.TestCase):
    def test_comes_in_first(self):
        best = row_of((0x80, 0x70, 0x60, 0x50, 0x40, 0x30, 0x20, 0x10))
        self.assertEqual(scores.enter(0x81, best, NEW), [0, 0, 0x81] + NEW + best[:28])

    def test_comes_in_at_every_place(self):
        best = row_of((0x80, 0x70, 0x60, 0x50, 0x40, 0x30, 0x20, 0x10))
        for place, score in enumerate((0x85, 0x75, 0x65, 0x55, 0x45, 0x35, 0x25, 0x15)):
            expected = [0, place] + best[:place * 4] + [score] + NEW + best[place * 4:28]
            self.assertEqual(scores.enter(score, best, NEW), expected, place)

    def test_comes_in_last(self):
        best = row_of((0x80, 0x70, 0x60, 0x50, 0x40, 0x30, 0x20, 0x10))
        self.assertEqual(scores.enter(0x11, best, NEW), [0, 7] + best[:28] + [0x11] + NEW)

    def test_written_out(self):
        best = [0x900, 65, 65, 65, 0x800, 66, 66, 66, 0x700, 67, 67, 67, 0x600, 68, 68, 68,
                0x500, 69, 69, 69, 0x400, 70, 70, 70, 0x300, 71, 71, 71, 0x200, 72, 72, 72]
        self.assertEqual(scores.enter(0x700, best, [90, 32, 89]), [
            0, 3, 0x900, 65, 65, 65, 0x800, 66, 66, 66, 0x700, 67, 67, 67, 0x700, 90, 32, 89,
            0x600, 68, 68, 68, 0x500, 69, 69, 69, 0x400, 70, 70, 70, 0x300, 71, 71, 71])

    def test_as_high_as_one(self):
        best = row_of(FALLING)
        for entry in range(7):
            expected = [0, entry + 1] + best[:entry * 4 + 4] + [FALLING[entry]] + NEW + best[entry * 4 + 4:28]
            self.assertEqual(scores.enter(FALLING[entry], best, NEW), expected, entry)

    def test_as_high_as_several(self):
        for first in range(8):
            for behind in range(first + 1, 8):
                best = row_of([0x60] * first + [0x50] * (behind - first) + [0x40] * (8 - behind))
                expected = [0, behind] + best[:behind * 4] + [0x50] + NEW + best[behind * 4:28]
                self.assertEqual(scores.enter(0x50, best, NEW), expected, (first, behind))

    def test_as_high_as_the_seventh(self):
        best = row_of(FALLING)
        self.assertEqual(scores.enter(FALLING[6], best, NEW), [0, 7] + best[:28] + [FALLING[6]] + NEW)

    def test_as_high_as_the_eighth(self):
        self.assertEqual(scores.enter(FALLING[7], row_of(FALLING), NEW), [-4])

    def test_as_high_as_all_eight(self):
        for score in (0, 1, 0x1234567, HIGHEST_SCORE):
            self.assertEqual(scores.enter(score, row_of([score] * 8), NEW), [-4], hex(score))

    def test_lower_than_all(self):
        for score in (0, 1, 0x19):
            self.assertEqual(scores.enter(score, row_of(FALLING), NEW), [-4], hex(score))
        self.assertEqual(scores.enter(0x999999999998, row_of([HIGHEST_SCORE] * 8), NEW), [-4])

    def test_just_above_all_the_same(self):
        best = row_of([0] * 8)
        self.assertEqual(scores.enter(1, best, NEW), [0, 0, 1] + NEW + best[:28])

    def test_last_falls_out_though_it_is_as_high_as_the_one_before(self):
        best = row_of([0x30] * 8)
        self.assertEqual(entries_of(scores.enter(0x31, best, NEW)[2:]), [(0x31, *NEW)] + entries_of(best)[:7])

    def test_answer_has_34_numbers(self):
        for score in (0x21, 0x300, 0x1234567, HIGHEST_SCORE):
            self.assertEqual(len(scores.enter(score, row_of(FALLING), NEW)), 34, hex(score))

    def test_every_right_letter(self):
        best = row_of(FALLING)
        for letter in RIGHT_LETTERS:
            for place in range(3):
                letters = changed(NEW, place, letter)
                self.assertEqual(scores.enter(0x2000, best, letters)[2 + 24:2 + 28], [0x2000] + letters)


class EnterRefusesTest(unittest.TestCase):
    wrong_letters = [[], [65], [65, 66], [65, 66, 67, 68], [32] * 6, [65] * 100, [255] * 100]
    wrong_letters += [changed(NEW, place, wrong) for place in range(3) for wrong in WRONG_LETTERS]

    def test_no_row_of_the_best(self):
        for best in wrong_rows():
            self.assertEqual(scores.enter(0x2000, best, NEW), [-8], best)

    def test_no_row_of_the_best_before_all_else(self):
        for best in wrong_rows():
            self.assertEqual(scores.enter(0xA, best, NEW), [-8], best)
            self.assertEqual(scores.enter(LAST_INPUT, best, []), [-8], best)
            self.assertEqual(scores.enter(0x2000, best, [65, 66, 91]), [-8], best)
            self.assertEqual(scores.enter(0, best, NEW), [-8], best)

    def test_score_that_is_none(self):
        for score in NO_SCORES:
            for entry_scores in (FALLING, [0] * 8):
                self.assertEqual(scores.enter(score, row_of(entry_scores), NEW), [-1], hex(score))

    def test_no_three_letters(self):
        for letters in self.wrong_letters:
            self.assertEqual(scores.enter(0x2000, row_of(FALLING), letters), [-1], letters)

    def test_every_letter_that_is_a_byte(self):
        for letter in range(256):
            for place in range(3):
                answer = scores.enter(0x2000, row_of(FALLING), changed(NEW, place, letter))
                self.assertEqual(answer[0], 0 if letter in RIGHT_LETTERS else -1, (letter, place))

    def test_score_and_letters_wrong(self):
        for letters in self.wrong_letters:
            self.assertEqual(scores.enter(0xA, row_of(FALLING), letters), [-1], letters)

    def test_wrong_letters_before_not_coming_in(self):
        for letters in self.wrong_letters:
            self.assertEqual(scores.enter(0x1, row_of(FALLING), letters), [-1], letters)
            self.assertEqual(scores.enter(0x20, row_of(FALLING), letters), [-1], letters)

    def test_wrong_score_before_not_coming_in(self):
        # 0xA lies below every entry here, and yet is no score.
        self.assertEqual(scores.enter(0xA, row_of(FALLING), NEW), [-1])
        self.assertEqual(scores.enter(0xF, row_of([HIGHEST_SCORE] * 8), NEW), [-1])


class TheBestStayInOrderTest(unittest.TestCase):
    def check_entered(self, score, best, letters):
        """Gives back the row as it is then."""
        answer = scores.enter(score, best, letters)
        self.assertEqual(answer, entered_as_told(score, best, letters), (hex(score), best))
        if answer == [-4]:
            self.assertGreaterEqual(best[28], score)
            return best
        place, row = answer[1], answer[2:]
        self.assertEqual(scores.judge(row), [0], row)
        entries = entries_of(row)
        self.assertEqual(entries[place], (score, *letters))
        self.assertTrue(all(entry[0] >= score for entry in entries[:place]), row)
        self.assertTrue(all(entry[0] < score for entry in entries[place + 1:]), row)
        return row

    def test_entered_one_behind_another(self):
        numbers = some_numbers_of_every_length()
        for step in (1, 7, 13, 29, len(numbers) - 1):
            row = [0, 32, 32, 32] * 8
            for turn in range(200):
                score = score_as_read(numbers[turn * step % len(numbers)])
                letters = [65 + turn % 26, 65 + turn * 3 % 26, RIGHT_LETTERS[turn * 5 % 27]]
                row = self.check_entered(score, row, letters)

    def test_entered_where_many_are_as_high(self):
        for step in range(1, 30):
            row = [0, 32, 32, 32] * 8
            for turn in range(60):
                score = score_as_read(turn * step % 11 + turn // 20)
                row = self.check_entered(score, row, [65 + turn % 26, 65 + turn // 26, 65 + step % 26])

    def test_every_falling_row_of_two_heights(self):
        for first in range(9):
            best = row_of([0x20] * first + [0x10] * (8 - first))
            for score in (0, 0x9, 0x10, 0x11, 0x19, 0x20, 0x21, HIGHEST_SCORE):
                self.check_entered(score, best, NEW)

    def test_rows_over_all_lengths_of_scores(self):
        numbers = some_numbers_of_every_length()
        for start in range(len(numbers) - 7):
            falling = [score_as_read(number) for number in reversed(numbers[start:start + 8])]
            for number in numbers:
                self.check_entered(score_as_read(number), row_of(falling), NEW)


class NothingHandedInIsChangedTest(unittest.TestCase):
    rows = [row_of(FALLING), row_of([0] * 8), row_of([HIGHEST_SCORE] * 8)] + wrong_rows()[:20]
    all_letters = (NEW, [], [65, 66], [65, 66, 91], [65] * 100)

    def test_lists_are_the_same_behind_the_call(self):
        for row in self.rows:
            best = list(row)
            scores.judge(best)
            self.assertEqual(best, row)
            for right in self.all_letters:
                for score in (0, 0x2000, HIGHEST_SCORE, 0xA):
                    letters = list(right)
                    scores.enter(score, best, letters)
                    self.assertEqual((best, letters), (row, right))

    def test_lists_are_not_changed_for_a_while_either(self):
        for row in self.rows:
            self.assertEqual(scores.judge(Untouchable(row)), scores.judge(row))
            for letters in self.all_letters:
                for score in (0, 0x2000, HIGHEST_SCORE, 0xA):
                    answer = scores.enter(score, Untouchable(row), Untouchable(letters))
                    self.assertEqual(answer, scores.enter(score, row, letters))

    def test_answer_is_a_row_of_its_own(self):
        best, letters = row_of(FALLING), list(NEW)
        answer = scores.enter(0x2000, best, letters)
        kept = list(answer)
        best[0] = letters[0] = 7
        self.assertEqual(answer, kept)
        answer[2] = answer[26] = 99
        self.assertEqual((best[0], letters[0]), (7, 7))


if __name__ == "__main__":
    unittest.main()
