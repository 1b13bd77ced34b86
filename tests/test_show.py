"""The call show, and E3: what is shown in enough places reads as the number."""

import unittest

from helper import HIGHEST_SCORE, LAST_INPUT, NO_SCORES, numbers_of_every_length, score_as_read
from pinscores import scores

DIGIT_SEGMENTS = {"0": 63, "1": 6, "2": 91, "3": 79, "4": 102, "5": 109, "6": 125, "7": 7, "8": 127, "9": 111}
READ = {segments: digit for digit, segments in DIGIT_SEGMENTS.items()}

SOME_NUMBERS = (
    0, 1, 5, 9, 10, 42, 90, 99,
    100, 101, 110, 789, 999, 1000, 1001, 1010, 4096, 9999, 10000, 12345,
    100000, 123456, 908070, 999999, 1000000, 1234567, 1000001, 9999999,
    100000000, 987654321, 999999999, 1000000000, 1234567890, 9000000009,
    100000000000, 123456789012, 500000000000, 900000000009, 999999999999,
)


def segments_as_told(number, w):
    text = str(number).zfill(2).rjust(16)[-w:]
    segments = []
    for at, sign in enumerate(text):
        behind = w - 1 - at
        if sign == " ":
            segments.append(0)
        else:
            segments.append(DIGIT_SEGMENTS[sign] + (128 if behind in (3, 6, 9, 12, 15) else 0))
    return segments


def read_with_commas(segments):
    text = ""
    for each in segments:
        if each > 0:
            text += READ[each % 128] + ("," if each >= 128 else "")
    return text


class ShowTest(unittest.TestCase):
    def test_each_digit(self):
        for digit, segments in enumerate((63, 6, 91, 79, 102, 109, 125, 7, 127, 111)):
            self.assertEqual(scores.show(digit, 1), [0, segments], digit)

    def test_each_digit_with_a_comma(self):
        for digit, segments in enumerate((63, 6, 91, 79, 102, 109, 125, 7, 127, 111)):
            a = 0x10000 + digit * 0x1000
            self.assertEqual(scores.show(a, 5), [0, 6, segments + 128, 63, 63, 63], digit)

    def test_nought_in_every_width(self):
        self.assertEqual(scores.show(0, 1), [0, 63])
        self.assertEqual(scores.show(0, 2), [0, 63, 63])
        for w in range(3, 17):
            self.assertEqual(scores.show(0, w), [0] + [0] * (w - 2) + [63, 63], w)

    def test_one_digit(self):
        self.assertEqual(scores.show(0x7, 1), [0, 7])
        self.assertEqual(scores.show(0x7, 2), [0, 63, 7])
        self.assertEqual(scores.show(0x7, 3), [0, 0, 63, 7])
        self.assertEqual(scores.show(0x7, 4), [0, 0, 0, 63, 7])

    def test_two_digits(self):
        self.assertEqual(scores.show(0x42, 1), [0, 91])
        self.assertEqual(scores.show(0x42, 2), [0, 102, 91])
        self.assertEqual(scores.show(0x42, 5), [0, 0, 0, 0, 102, 91])

    def test_three_digits_have_no_comma(self):
        self.assertEqual(scores.show(0x123, 3), [0, 6, 91, 79])
        self.assertEqual(scores.show(0x123, 4), [0, 0, 6, 91, 79])

    def test_four_digits_have_a_comma(self):
        self.assertEqual(scores.show(0x1234, 4), [0, 134, 91, 79, 102])
        self.assertEqual(scores.show(0x1234, 6), [0, 0, 0, 134, 91, 79, 102])

    def test_seven_digits(self):
        self.assertEqual(scores.show(0x1234567, 7), [0, 134, 91, 79, 230, 109, 125, 7])
        self.assertEqual(scores.show(0x1234567, 12), [0, 0, 0, 0, 0, 0, 134, 91, 79, 230, 109, 125, 7])

    def test_highest_score(self):
        places = [111, 111, 239, 111, 111, 239, 111, 111, 239, 111, 111, 111]
        for w in range(1, 17):
            self.assertEqual(scores.show(HIGHEST_SCORE, w), [0] + ([0] * 4 + places)[-w:], w)

    def test_noughts_within_a_number(self):
        self.assertEqual(scores.show(0x1000000, 8), [0, 0, 134, 63, 63, 191, 63, 63, 63])
        self.assertEqual(scores.show(0x100, 4), [0, 0, 6, 63, 63])
        self.assertEqual(scores.show(0x900000000009, 12), [0, 111, 63, 191, 63, 63, 191, 63, 63, 191, 63, 63, 111])

    def test_more_digits_than_places_lights_all_places(self):
        self.assertEqual(scores.show(0x1000, 3), [0, 63, 63, 63])
        self.assertEqual(scores.show(0x10005, 4), [0, 191, 63, 63, 109])
        self.assertEqual(scores.show(0x1000000, 6), [0, 63, 63, 191, 63, 63, 63])
        self.assertEqual(scores.show(0x100000000000, 11), [0, 63, 191, 63, 63, 191, 63, 63, 191, 63, 63, 63])
        self.assertEqual(scores.show(0x1000, 1), [0, 63])
        self.assertEqual(scores.show(0x1234, 2), [0, 79, 102])

    def test_more_than_twelve_places(self):
        for w in range(13, 17):
            dark = [0] * (w - 12)
            self.assertEqual(scores.show(0x100000000000, w),
                             [0] + dark + [6, 63, 191, 63, 63, 191, 63, 63, 191, 63, 63, 63], w)
            self.assertEqual(scores.show(0x5, w), [0] + [0] * (w - 2) + [63, 109], w)

    def test_comma_only_where_3_6_or_9_places_stand_behind(self):
        for w in range(1, 17):
            answer = scores.show(0x123456789012, w)
            with_comma = [w - 1 - at for at, segments in enumerate(answer[1:]) if segments >= 128]
            self.assertEqual(sorted(with_comma), [behind for behind in (3, 6, 9) if behind < w], w)

    def test_no_comma_in_a_dark_place(self):
        for w in range(3, 17):
            self.assertEqual(max(scores.show(0x999, w)[1:]), 111, w)
            self.assertEqual([each for each in scores.show(0x999999, w)[1:] if each >= 128], [239] * (w > 3), w)

    def test_last_two_places_are_never_dark(self):
        for w in range(1, 17):
            for a in (0, 1, 0x10, 0x100, 0x1000, 0x100000000000):
                self.assertNotIn(0, scores.show(a, w)[1:][-2:], (hex(a), w))

    def test_every_width_with_scores_of_every_length(self):
        for number in SOME_NUMBERS:
            for w in range(1, 17):
                self.assertEqual(scores.show(score_as_read(number), w), [0] + segments_as_told(number, w), (number, w))


class ShowRefusesTest(unittest.TestCase):
    def test_a_that_is_no_score(self):
        for a in NO_SCORES:
            for w in (1, 2, 12, 16):
                self.assertEqual(scores.show(a, w), [-1], (hex(a), w))

    def test_what_is_no_score_in_the_digits_not_shown_too(self):
        self.assertEqual(scores.show(0xA00, 2), [-1])
        self.assertEqual(scores.show(0xA00000000000, 1), [-1])
        self.assertEqual(scores.show(2**48, 12), [-1])

    def test_wrong_widths(self):
        for w in (0, 17, 18, 32, 255, 256, 272, 2**32 + 1, 2**63, LAST_INPUT - 1, LAST_INPUT):
            for a in (0, 0x1234567, HIGHEST_SCORE):
                self.assertEqual(scores.show(a, w), [-1], (hex(a), w))

    def test_both_wrong(self):
        for a in NO_SCORES:
            for w in (0, 17, LAST_INPUT):
                self.assertEqual(scores.show(a, w), [-1], (hex(a), w))


class WhatIsShownReadsAsTheNumberTest(unittest.TestCase):
    def test_in_enough_places(self):
        for number in numbers_of_every_length():
            for w in (12, 13, 14, 15, 16):
                answer = scores.show(score_as_read(number), w)
                self.assertEqual(answer[0], 0)
                self.assertEqual(len(answer), w + 1)
                self.assertEqual(read_with_commas(answer[1:]), f"{number:,}".zfill(2), (number, w))

    def test_in_just_as_many_places_as_digits(self):
        for number in numbers_of_every_length():
            answer = scores.show(score_as_read(number), len(str(number)))
            self.assertEqual(read_with_commas(answer[1:]), f"{number:,}", number)

    def test_in_fewer_places_the_last_digits(self):
        for number in numbers_of_every_length():
            for w in range(1, len(str(number))):
                answer = scores.show(score_as_read(number), w)
                self.assertEqual(read_with_commas(answer[1:]).replace(",", ""), str(number)[-w:], (number, w))


if __name__ == "__main__":
    unittest.main()
