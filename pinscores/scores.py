"""Scores: points kept as twelve decimal digits, four bits each."""

# One past the highest number that twelve decimal digits can tell.
NUMBERS_END = 1000000000000
# One past the highest whole number of twelve digits of four bits: 2^48.
SCORES_END = 0x1000000000000
HIGHEST_MULTIPLIER = 255


# A score and its number have the same digits and differ only in what a place
# is worth, so one walk serves both ways.
def reread_digits(value, old_base, new_base):
    result = 0
    place = 1
    rest = value
    while rest > 0:
        result = result + rest % old_base * place
        rest = rest // old_base
        place = place * new_base
    return result


def score_from(value):
    return reread_digits(value, 10, 16)


def number_from(a):
    return reread_digits(a, 16, 10)


# A sum rolls over at most once, so one reckoning serves sums and products.
def roll_over(value):
    return [score_from(value % NUMBERS_END), value // NUMBERS_END]


def is_score(a):
    if a >= SCORES_END:
        return False
    rest = a
    while rest > 0:
        if rest % 16 > 9:
            return False
        rest = rest // 16
    return True


def of(number):
    if number >= NUMBERS_END:
        return [-1]
    return [0, score_from(number)]


def number(a):
    if not is_score(a):
        return [-1]
    return [0, number_from(a)]


def add(a, b):
    if not is_score(a) or not is_score(b):
        return [-1]
    return [0] + roll_over(number_from(a) + number_from(b))


def times(a, m):
    if not is_score(a) or m > HIGHEST_MULTIPLIER:
        return [-1]
    return [0] + roll_over(number_from(a) * m)
