"""The calls of a night's plan, over a night of 64 slots told as masks."""

OUT_OF_RANGE = -2
WAY_TOO_LONG = -3
JOBS_OUT_OF_ORDER = -3
NO_SUCH_PLACE = -3

SLOTS = 64
ALL_SLOTS = 18446744073709551615
WORD_SPAN = 4294967296
LONG_SPAN = 18446744073709551616

MOST_ZENITHS = 64
MOST_WAYS = 1024
MOST_MASKS = 1024
MOST_JOBS = 16
MOST_TOUR_PLACES = 8
MOST_TURNS = 1024
MOST_WISHES = 256
GREATEST_SIZE = 16777216
GREATEST_SPEED = 1048576


def all_below(numbers, span):
    """Whether each number is from 0 to ahead of span."""
    for number in numbers:
        if number < 0 or number >= span:
            return False
    return True


def signed(number, span):
    """The number with a sign that is told modulo span."""
    if number >= span // 2:
        return number - span
    return number


def signed_words(words):
    """The numbers with signs that words tell."""
    return [signed(word, WORD_SPAN) for word in words]


def words_in_range(words, most):
    """Whether a list holds at most so many numbers, each below 2^32."""
    return len(words) <= most and all_below(words, WORD_SPAN)


def all_small(numbers):
    """Whether no number is above 2^24 in size."""
    for number in numbers:
        if abs(number) > GREATEST_SIZE:
            return False
    return True


def in_threes(numbers):
    """The ways or jobs of a flat list, each a tuple of three numbers."""
    return [(numbers[i], numbers[i + 1], numbers[i + 2]) for i in range(0, len(numbers), 3)]


def in_twos(numbers):
    """The places or wishes of a flat list, each a tuple of two numbers."""
    return [(numbers[i], numbers[i + 1]) for i in range(0, len(numbers), 2)]


def along(way, other):
    """How far two ways are along one another."""
    return way[0] * other[0] + way[1] * other[1] + way[2] * other[2]


def up_mask(least, zeniths, way):
    """The mask of the slots whose zenith the way is at least so far along."""
    mask = 0
    for slot, zenith in enumerate(zeniths):
        if along(way, zenith) >= least:
            mask = mask | (1 << slot)
    return mask


def starts_mask(d, mask):
    """The mask of the slots at which d in a row may begin."""
    # A shift brings in zeros from above, so no row reaches beyond slot 63;
    # without any shift, for d 0, all slots are left.
    starts = ALL_SLOTS
    for further in range(d):
        starts = starts & (mask >> further)
    return starts


def speed_in_range(speed):
    """Whether a speed of turning is from 1 to 2^20."""
    return speed >= 1 and speed <= GREATEST_SPEED


def masks_in_range(masks, most):
    """Whether a list holds at most so many numbers, each a mask."""
    return len(masks) <= most and all_below(masks, LONG_SPAN)


def bits_of(mask):
    """The slots, or places, that a mask has, rising."""
    return [bit for bit in range(SLOTS) if (mask >> bit) & 1 == 1]


def longest_row(slots):
    """Where the first of the longest rows of rising slots begins, and how long it is."""
    longest_begin = 0
    longest = 0
    length = 0
    last = -1
    for slot in slots:
        length = length + 1 if slot == last + 1 else 1
        if length > longest:
            longest_begin = slot - length + 1
            longest = length
        last = slot
    return [longest_begin, longest]


def facts_of(mask):
    """How many slots a mask has, the first, the last, and where its longest row begins and how long it is."""
    slots = bits_of(mask)
    if not slots:
        return [0, SLOTS, SLOTS, 0, 0]
    return [len(slots), slots[0], slots[-1]] + longest_row(slots)


def jobs_in_order(jobs):
    """Whether each job ends behind its beginning, and no later than the job behind it."""
    latest = 0
    for begin, end, worth in jobs:
        if end <= begin or end < latest:
            return False
        latest = end
    return True


def ended_by(jobs, moment):
    """How many jobs end no later than a moment; as jobs stand by their ends, these are the first."""
    return len([end for begin, end, worth in jobs if end <= moment])


def best_worths(jobs):
    """Of each number from 0 on the best worth that is to be had of so many first jobs."""
    worths = [0]
    for begin, end, worth in jobs:
        # What has ended when a job begins ends ahead of it, and so stands ahead of it: its worth is known.
        worths.append(max(worths[-1], worth + worths[ended_by(jobs, begin)]))
    return worths


def chosen_jobs(jobs, worths):
    """The numbers of the best jobs, rising."""
    chosen = []
    moment = jobs[-1][1] if jobs else 0
    for number in range(len(jobs) - 1, -1, -1):
        # All jobs ahead of one that ends by that moment end by it too, so none of them is to be left out of the best.
        if jobs[number][1] <= moment and worths[number + 1] > worths[number]:
            chosen.append(number)
            moment = jobs[number][0]
    chosen.reverse()
    return chosen


def rounded_up(distance, speed):
    """How long a distance takes at a speed, rounded up."""
    return (distance + speed - 1) // speed


def turning(va, vb, place, other):
    """How long turning takes from one place to another."""
    return max(rounded_up(abs(place[0] - other[0]), va), rounded_up(abs(place[1] - other[1]), vb))


def turnings_from(va, vb, place, places):
    """How long turning takes from one place to each of some."""
    return [turning(va, vb, place, other) for other in places]


def onward(turns, least, at, to, left):
    """The least turnings from one place to another and then through all others that are left."""
    return turns[at][to] + least[left ^ (1 << to)][to]


def least_onward(turns, least, at, left):
    """The least turnings from a place through all that are left."""
    return min([onward(turns, least, at, to, left) for to in bits_of(left)])


def least_turnings(turns):
    """Of each mask of places that are left, of each place the least turnings from it through these."""
    count = len(turns)
    least = [[0] * count]
    for left in range(1, 1 << count):
        least.append([least_onward(turns, least, at, left) for at in range(count)])
    return least


def shortest_tour(turns, least, at, left):
    """The places that are left, in the order of the shortest tour from one place."""
    tour = []
    while left != 0:
        best = least_onward(turns, least, at, left)
        # Of as short tours the one that comes first in order is told, so the lowest number goes first.
        at = [to for to in bits_of(left) if onward(turns, least, at, to, left) == best][0]
        left = left ^ (1 << at)
        tour.append(at)
    return tour


def wish_starts(d, mask):
    """The mask of the slots at which a wish may be begun."""
    if d < 1 or d > SLOTS:
        return 0
    return starts_mask(d, mask)


def urgent_first(starts, ranks):
    """The numbers of the wishes, each ahead of those that it is preferred to where both may begin."""
    # The last slot of the whole night decides, wherever one is filling, so that one order serves at every slot;
    # sorted leaves wishes that are as urgent as they stood, the first of them first.
    return sorted(range(len(starts)), key=lambda number: (-ranks[number], starts[number].bit_length()))


def fillings(slot, order, starts, lengths):
    """The wishes that are begun from a slot on, each a tuple of the wish and its slot."""
    left = list(order)
    begun = []
    while slot < SLOTS:
        able = [number for number in left if (starts[number] >> slot) & 1 == 1]
        if able:
            begun.append((able[0], slot))
            left.remove(able[0])
            slot = slot + lengths[able[0]]
        else:
            slot = slot + 1
    return begun


def two_lists(numbers, together):
    """The answer that tells a list of numbers and one number more, each behind how long it is."""
    return [len(numbers), len(numbers)] + numbers + [1, together]


def np_up(t, z, l):
    """Of each way of l the mask of the slots whose zenith in z it is at least t along."""
    if not all_below([t], LONG_SPAN):
        return [OUT_OF_RANGE]
    if not words_in_range(z, 3 * MOST_ZENITHS) or not words_in_range(l, 3 * MOST_WAYS):
        return [OUT_OF_RANGE]
    zenith_numbers = signed_words(z)
    way_numbers = signed_words(l)
    if not all_small(zenith_numbers) or not all_small(way_numbers):
        return [WAY_TOO_LONG]
    least = signed(t, LONG_SPAN)
    zeniths = in_threes(zenith_numbers)
    return [0] + [up_mask(least, zeniths, way) for way in in_threes(way_numbers)]


def np_starts(d, l):
    """Of each mask of l the mask of the slots at which d in a row may begin."""
    if d < 0 or d > SLOTS or not masks_in_range(l, MOST_MASKS):
        return [OUT_OF_RANGE]
    return [0] + [starts_mask(d, mask) for mask in l]


def np_facts(l):
    """Of each mask of l how many slots, the first, the last, and where the longest row begins and how long it is."""
    if not masks_in_range(l, MOST_MASKS):
        return [OUT_OF_RANGE]
    answer = [0]
    for mask in l:
        answer.extend(facts_of(mask))
    return answer


def np_crowd(l):
    """Of each slot how many masks of l have it."""
    if not masks_in_range(l, MOST_MASKS):
        return [OUT_OF_RANGE]
    counts = [0] * SLOTS
    for mask in l:
        for slot in bits_of(mask):
            counts[slot] = counts[slot] + 1
    return [0] + counts


def np_best(rows):
    """The numbers of the best jobs of rows, rising, and their worth together."""
    if not words_in_range(rows, 3 * MOST_JOBS):
        return [OUT_OF_RANGE]
    jobs = in_threes(rows)
    if not jobs_in_order(jobs):
        return [JOBS_OUT_OF_ORDER]
    worths = best_worths(jobs)
    return two_lists(chosen_jobs(jobs, worths), worths[-1])


def np_tour(va, vb, i, l):
    """The other places of l in the order of the shortest tour from place i, and its turnings together."""
    if not speed_in_range(va) or not speed_in_range(vb):
        return [OUT_OF_RANGE]
    if not all_below([i], WORD_SPAN) or not words_in_range(l, 2 * MOST_TOUR_PLACES):
        return [OUT_OF_RANGE]
    places = in_twos(signed_words(l))
    if i >= len(places):
        return [NO_SUCH_PLACE]
    turns = [turnings_from(va, vb, place, places) for place in places]
    least = least_turnings(turns)
    others = ((1 << len(places)) - 1) ^ (1 << i)
    return two_lists(shortest_tour(turns, least, i, others), least[others][i])


def np_turns(va, vb, a, b):
    """How long turning takes from each place of a to the place of b that stands where it stands."""
    if not speed_in_range(va) or not speed_in_range(vb):
        return [OUT_OF_RANGE]
    if not words_in_range(a, 2 * MOST_TURNS) or not words_in_range(b, 2 * MOST_TURNS):
        return [OUT_OF_RANGE]
    places = in_twos(signed_words(a))
    others = in_twos(signed_words(b))
    return [0] + [turning(va, vb, place, other) for place, other in zip(places, others)]


def np_fill(i, l, w):
    """Which wishes are begun at which slots when the night is filled from slot i on, in order."""
    if i < 0 or i > SLOTS:
        return [OUT_OF_RANGE]
    if not masks_in_range(l, MOST_WISHES) or not words_in_range(w, 2 * MOST_WISHES):
        return [OUT_OF_RANGE]
    wishes = in_twos(w)
    lengths = [d for d, rank in wishes]
    starts = [wish_starts(d, mask) for d, mask in zip(lengths, l)]
    order = urgent_first(starts, [rank for d, rank in wishes])
    begun = fillings(i, order, starts, lengths)
    answer = [len(begun)]
    for number, slot in begun:
        answer.extend([number, slot])
    return answer


def np_starts1(d, m):
    """At how many slots d in a row may begin in a mask."""
    if not all_below([d], WORD_SPAN) or not all_below([m], LONG_SPAN):
        return [OUT_OF_RANGE]
    return [len(bits_of(starts_mask(min(d, SLOTS), m)))]
