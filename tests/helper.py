"""What several test files need: edges, numbers to try, and scores read without the program."""

LAST_NUMBER = 10**12 - 1
HIGHEST_SCORE = 0x999999999999
LAST_INPUT = 2**64 - 1

# Each is no score: a digit above 9 at either end and within, and 2^48 and more with right and wrong digits.
NO_SCORES = (
    0xA, 0xF, 0x1A, 0xA0, 0x12345A789012, 0xA00000000000, 0x99999999999A, 0xF99999999999, 2**48 - 1,
    2**48, 2**48 + 1, 2**48 + 0x1234567, 0x1999999999999, 0x9999999999999999, 2**63, LAST_INPUT,
)


def numbers_of_every_length():
    """Some hundred numbers of each length, 1 to 12 digits, both ends of each among them."""
    found = list(range(1000))
    for length in range(4, 13):
        low, high = 10 ** (length - 1), 10**length
        step = (high - low) // 499
        found.extend(range(low, high, step))
        found.extend([low + 1, high - 2, high - 1])
        # Each digit by itself at each place, with noughts and with nines about it.
        for digit in range(1, 10):
            found.append(digit * low)
            found.extend(high - 1 - digit * 10**place for place in range(length))
    return found


def some_numbers_of_every_length():
    """Few enough to try each with each: the ends of every length, and one between."""
    found = [0]
    for length in range(1, 13):
        low, high = 10 ** (length - 1), 10**length
        found.extend([low, low + 1, int("739104826515"[:length]), high - 2, high - 1])
    return found


def score_as_read(number):
    """The score by Python's own reading of digits, not by the program's."""
    return int(str(number), 16)


class Untouchable(list):
    """A list that can be read alone: a change fails at once, though it be undone later."""

    def refuse(self, *arguments, **keywords):
        raise AssertionError("a list that was handed in is changed")

    append = clear = extend = insert = pop = remove = reverse = sort = refuse
    __setitem__ = __delitem__ = __iadd__ = __imul__ = refuse
