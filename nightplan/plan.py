"""The calls of a night's plan, over a night of 64 slots told as masks."""

OUT_OF_RANGE = -2
WAY_TOO_LONG = -3

SLOTS = 64
ALL_SLOTS = 18446744073709551615
WORD_SPAN = 4294967296
LONG_SPAN = 18446744073709551616

MOST_ZENITHS = 64
MOST_WAYS = 1024
MOST_MASKS = 1024
GREATEST_SIZE = 16777216


def all_below(numbers, span):
    """Whether each number is from 0 to ahead of span."""
    for number in numbers:
        if number < 0 or number >= span:
            return False
    return True


def signed(number, span):
    """The number with a sign that is told modulo span."""
    if number >= span // 2:
        return number - span
    return number


def signed_words(words):
    """The numbers with signs that words tell."""
    return [signed(word, WORD_SPAN) for word in words]


def ways_in_range(words, most):
    """Whether a flat list holds at most so many ways, of words alone."""
    return len(words) <= 3 * most and all_below(words, WORD_SPAN)


def all_small(numbers):
    """Whether no number is above 2^24 in size."""
    for number in numbers:
        if abs(number) > GREATEST_SIZE:
            return False
    return True


def in_threes(numbers):
    """The ways of a flat list, each a tuple of three numbers."""
    return [(numbers[i], numbers[i + 1], numbers[i + 2]) for i in range(0, len(numbers), 3)]


def along(way, other):
    """How far two ways are along one another."""
    return way[0] * other[0] + way[1] * other[1] + way[2] * other[2]


def up_mask(least, zeniths, way):
    """The mask of the slots whose zenith the way is at least so far along."""
    mask = 0
    for slot, zenith in enumerate(zeniths):
        if along(way, zenith) >= least:
            mask = mask | (1 << slot)
    return mask


def starts_mask(d, mask):
    """The mask of the slots at which d in a row may begin."""
    # A shift brings in zeros from above, so no row reaches beyond slot 63;
    # without any shift, for d 0, all slots are left.
    starts = ALL_SLOTS
    for further in range(d):
        starts = starts & (mask >> further)
    return starts


def masks_in_range(masks):
    """Whether a list holds at most 1024 numbers, each a mask."""
    return len(masks) <= MOST_MASKS and all_below(masks, LONG_SPAN)


def slots_of(mask):
    """The slots that a mask has, rising."""
    return [slot for slot in range(SLOTS) if (mask >> slot) & 1 == 1]


def longest_row(slots):
    """Where the first of the longest rows of rising slots begins, and how long it is."""
    longest_begin = 0
    longest = 0
    length = 0
    last = -1
    for slot in slots:
        length = length + 1 if slot == last + 1 else 1
        if length > longest:
            longest_begin = slot - length + 1
            longest = length
        last = slot
    return [longest_begin, longest]


def facts_of(mask):
    """How many slots a mask has, the first, the last, and where its longest row begins and how long it is."""
    slots = slots_of(mask)
    if not slots:
        return [0, SLOTS, SLOTS, 0, 0]
    return [len(slots), slots[0], slots[-1]] + longest_row(slots)


def np_up(t, z, l):
    """Of each way of l the mask of the slots whose zenith in z it is at least t along."""
    if not all_below([t], LONG_SPAN):
        return [OUT_OF_RANGE]
    if not ways_in_range(z, MOST_ZENITHS) or not ways_in_range(l, MOST_WAYS):
        return [OUT_OF_RANGE]
    zenith_numbers = signed_words(z)
    way_numbers = signed_words(l)
    if not all_small(zenith_numbers) or not all_small(way_numbers):
        return [WAY_TOO_LONG]
    least = signed(t, LONG_SPAN)
    zeniths = in_threes(zenith_numbers)
    return [0] + [up_mask(least, zeniths, way) for way in in_threes(way_numbers)]


def np_starts(d, l):
    """Of each mask of l the mask of the slots at which d in a row may begin."""
    if d < 0 or d > SLOTS or not masks_in_range(l):
        return [OUT_OF_RANGE]
    return [0] + [starts_mask(d, mask) for mask in l]


def np_facts(l):
    """Of each mask of l how many slots, the first, the last, and where the longest row begins and how long it is."""
    if not masks_in_range(l):
        return [OUT_OF_RANGE]
    answer = [0]
    for mask in l:
        answer.extend(facts_of(mask))
    return answer


def np_crowd(l):
    """Of each slot how many masks of l have it."""
    if not masks_in_range(l):
        return [OUT_OF_RANGE]
    counts = [0] * SLOTS
    for mask in l:
        for slot in slots_of(mask):
            counts[slot] = counts[slot] + 1
    return [0] + counts
