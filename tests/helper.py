"""What several test files share."""

import copy

ALL = 2 ** 64 - 1
LOW = -2 ** 31
HIGH = 2 ** 31 - 1
FASTEST = 2 ** 20


def next_state(state):
    """The next of a long row of numbers of 64 bits, so that spread inputs are the same each time."""
    return (state * 6364136223846793005 + 1442695040888963407) % 2 ** 64


def mask_of(*slots):
    return sum(2 ** slot for slot in slots)


def row(first, last):
    return mask_of(*range(first, last + 1))


def spread_masks(count, seed):
    """Masks with few and with many slots, the same each time."""
    masks = []
    state = seed
    for number in range(count):
        drawn = []
        for _ in range(3):
            state = next_state(state)
            drawn.append((state ^ state >> 29) * 11400714819323198485 % 2 ** 64)
        masks.append((drawn[0], drawn[0] | drawn[1] | drawn[2], drawn[0] & drawn[1])[number % 3])
    return masks


def words(*rows):
    """The flat list of words that rows of numbers with signs are handed in as."""
    return [number % 2 ** 32 for numbers in rows for number in numbers]


def spread_places(count, reach, seed):
    """Places with words of both signs up to a size, the same each time."""
    numbers = []
    state = seed
    for _ in range(2 * count):
        state = next_state(state)
        numbers.append(state // 2 ** 30 % (2 * reach + 1) - reach)
    return [tuple(numbers[k:k + 2]) for k in range(0, 2 * count, 2)]


def turning(va, vb, one, other):
    """The document's words: whole turnings, and one more for what is left over."""
    taken = []
    for speed, a, b in zip((va, vb), one, other):
        whole, rest = divmod(abs(a - b), speed)
        taken.append(whole + (1 if rest else 0))
    return max(taken)


def refuse_change(*arguments):
    raise AssertionError("what is handed in was changed")


class FixedList(list):
    """A list that can't be changed, not for a while either."""

    append = extend = insert = pop = remove = clear = reverse = sort = refuse_change
    __setitem__ = __delitem__ = __iadd__ = __imul__ = refuse_change


def check_stands_alone(case, call, *arguments):
    """The call changes nothing that is handed in, and answers the same a second time."""
    before = copy.deepcopy(arguments)
    first = call(*arguments)
    kept = list(first)
    case.assertEqual(arguments, before)
    first.append(99)
    case.assertEqual(call(*arguments), kept)
    case.assertEqual(arguments, before)
    fixed = [FixedList(argument) if isinstance(argument, list) else argument for argument in arguments]
    case.assertEqual(call(*fixed), kept)


def check_plain(case, answer):
    """The answer is a list of whole numbers, none of them True or False."""
    case.assertIs(type(answer), list)
    case.assertEqual({type(number) for number in answer}, {int})
