"""Scores: points kept as twelve decimal digits, four bits each."""

# One past the highest number that twelve decimal digits can tell.
NUMBERS_END = 1000000000000
# One past the highest whole number of twelve digits of four bits: 2^48.
SCORES_END = 0x1000000000000
HIGHEST_MULTIPLIER = 255
MOST_LEVELS = 256
MOST_PLACES = 16
# The last places are lit even where a nought stands in front there.
PLACES_ALWAYS_LIT = 2
SEGMENTS = (63, 6, 91, 79, 102, 109, 125, 7, 127, 111)
COMMA = 128
ENTRIES = 8
# An entry is a score and its letters, one number behind another.
LETTERS = 3
ENTRY_SIZE = 4
FIRST_LETTER = 65
LAST_LETTER = 90
BLANK = 32


# A score and its number have the same digits and differ only in what a place
# is worth, so one walk serves both ways.
def reread_digits(value, old_base, new_base):
    result = 0
    place = 1
    rest = value
    while rest > 0:
        result = result + rest % old_base * place
        rest = rest // old_base
        place = place * new_base
    return result


def score_from(value):
    return reread_digits(value, 10, 16)


def number_from(a):
    return reread_digits(a, 16, 10)


# A sum rolls over at most once, so one reckoning serves sums and products.
def roll_over(value):
    return [score_from(value % NUMBERS_END), value // NUMBERS_END]


def is_score(a):
    if a >= SCORES_END:
        return False
    rest = a
    while rest > 0:
        if rest % 16 > 9:
            return False
        rest = rest // 16
    return True


# Scores stand in the order of their numbers, so levels are compared as they are;
# beginning at 0 also keeps out a level that is not above 0.
def are_levels(levels):
    before = 0
    for level in levels:
        if not is_score(level) or level <= before:
            return False
        before = level
    return True


# The level comes round again 10^12 further on, once the score has rolled over.
def times_passed(level, start, end):
    count = 0
    if start < level and level <= end:
        count = count + 1
    if level + NUMBERS_END <= end:
        count = count + 1
    return count


# What is left of the score from this place on is 0 just where nothing but
# noughts stand in front, however many places there are.
def segments_of_place(rest, behind):
    if rest == 0 and behind >= PLACES_ALWAYS_LIT:
        return 0
    segments = SEGMENTS[rest % 16]
    if behind > 0 and behind % 3 == 0:
        return segments + COMMA
    return segments


def are_letters(letters):
    if len(letters) != LETTERS:
        return False
    for letter in letters:
        if letter != BLANK and (letter < FIRST_LETTER or letter > LAST_LETTER):
            return False
    return True


# Scores stand in the order of their numbers, so they are compared as they are.
def is_best(best):
    if len(best) != ENTRIES * ENTRY_SIZE:
        return False
    for at in range(0, len(best), ENTRY_SIZE):
        if not is_score(best[at]) or not are_letters(best[at + 1:at + ENTRY_SIZE]):
            return False
        if at > 0 and best[at] > best[at - ENTRY_SIZE]:
            return False
    return True


# The row falls, so those as high or higher are the ones in front.
def place_of(score, best):
    place = 0
    for at in range(0, len(best), ENTRY_SIZE):
        if best[at] >= score:
            place = place + 1
    return place


def of(number):
    if number >= NUMBERS_END:
        return [-1]
    return [0, score_from(number)]


def number(a):
    if not is_score(a):
        return [-1]
    return [0, number_from(a)]


def add(a, b):
    if not is_score(a) or not is_score(b):
        return [-1]
    return [0] + roll_over(number_from(a) + number_from(b))


def times(a, m):
    if not is_score(a) or m > HIGHEST_MULTIPLIER:
        return [-1]
    return [0] + roll_over(number_from(a) * m)


def passed(a, b, levels):
    if len(levels) > MOST_LEVELS:
        return [-2]
    if not is_score(a) or not is_score(b) or not are_levels(levels):
        return [-1]
    start = number_from(a)
    end = start + number_from(b)
    count = 0
    for level in levels:
        count = count + times_passed(number_from(level), start, end)
    return [0, count]


def show(a, w):
    if not is_score(a) or w == 0 or w > MOST_PLACES:
        return [-1]
    places = []
    rest = a
    for behind in range(w):
        places.append(segments_of_place(rest, behind))
        rest = rest // 16
    places.reverse()
    return [0] + places


def judge(best):
    if not is_best(best):
        return [-8]
    return [0]


def enter(score, best, letters):
    if not is_best(best):
        return [-8]
    if not is_score(score) or not are_letters(letters):
        return [-1]
    place = place_of(score, best)
    if place == ENTRIES:
        return [-4]
    at = place * ENTRY_SIZE
    row = best[:at] + [score] + letters + best[at:-ENTRY_SIZE]
    return [0, place] + row
