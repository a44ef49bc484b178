"""The calls of a night's plan, over a night of 64 slots told as masks."""

OUT_OF_RANGE = -2
WAY_TOO_LONG = -3

SLOTS = 64
ALL_SLOTS = 18446744073709551615
WORD_SPAN = 4294967296
LONG_SPAN = 18446744073709551616

MOST_ZENITHS = 64
MOST_WAYS = 1024
MOST_MASKS = 1024
GREATEST_SIZE = 16777216


def all_below(numbers, span):
    """Whether each number is from 0 to ahead of span."""
    for number in numbers:
        if number < 0 or number >= span:
            return False
    return True


def signed(number, span):
    """The number with a sign that is told modulo span."""
    if number >= span // 2:
        return number - span
    return number


def signed_words(words):
    """The numbers with signs that words tell."""
    return [signed(word, WORD_SPAN) for word in words]


def ways_in_range(words, most):
    """Whether a flat list holds at most so many ways, of words alone."""
    return len(words) <= 3 * most and all_below(words, WORD_SPAN)


def all_small(numbers):
    """Whether no number is above 2^24 in size."""
    for number in numbers:
        if abs(number) > GREATEST_SIZE:
            return False
    return True


def in_threes(numbers):
    """The ways of a flat list, each a tuple of three numbers."""
    return [(numbers[i], numbers[i + 1], numbers[i + 2]) for i in range(0, len(numbers), 3)]


def along(way, other):
    """How far two ways are along one another."""
    return way[0] * other[0] + way[1] * other[1] + way[2] * other[2]


def up_mask(least, zeniths, way):
    """The mask of the slots whose zenith the way is at least so far along."""
    mask = 0
    for slot, zenith in enumerate(zeniths):
        if along(way, zenith) >= least:
            mask = mask | (1 << slot)
    return mask


def starts_mask(d, mask):
    """The mask of the slots at which d in a row may begin."""
    # A shift brings in zeros from above, so no row reaches beyond slot 63;
    # without any shift, for d 0, all slots are left.
    starts = ALL_SLOTS
    for further in range(d):
        starts = starts & (mask >> further)
    return starts


def np_up(t, z, l):
    """Of each way of l the mask of the slots whose zenith in z it is at least t along."""
    if not all_below([t], LONG_SPAN):
        return [OUT_OF_RANGE]
    if not ways_in_range(z, MOST_ZENITHS) or not ways_in_range(l, MOST_WAYS):
        return [OUT_OF_RANGE]
    zenith_numbers = signed_words(z)
    way_numbers = signed_words(l)
    if not all_small(zenith_numbers) or not all_small(way_numbers):
        return [WAY_TOO_LONG]
    least = signed(t, LONG_SPAN)
    zeniths = in_threes(zenith_numbers)
    return [0] + [up_mask(least, zeniths, way) for way in in_threes(way_numbers)]


def np_starts(d, l):
    """Of each mask of l the mask of the slots at which d in a row may begin."""
    if d < 0 or d > SLOTS:
        return [OUT_OF_RANGE]
    if len(l) > MOST_MASKS or not all_below(l, LONG_SPAN):
        return [OUT_OF_RANGE]
    return [0] + [starts_mask(d, mask) for mask in l]
