"""Point 5: np_fill."""

import unittest

from helper import ALL, check_plain, check_stands_alone, mask_of, next_state, row, spread_masks
from nightplan.plan import np_fill

TOP = 2 ** 32 - 1


def fill(i, *wishes):
    """What is filled from slot i on of wishes told as a mask, d and a rank."""
    return np_fill(i, [wish[0] for wish in wishes], [number for wish in wishes for number in wish[1:]])


def answer(*begun):
    """The form of an answer: how many, then for each the wish and the slot."""
    return [len(begun)] + [number for pair in begun for number in pair]


def may_begin(wish, slot):
    """The document's words: the slot and those behind it, d in a row, all in the mask, none beyond 63."""
    mask, d, _ = wish
    return slot + d - 1 <= 63 and all(mask >> one & 1 for one in range(slot, slot + d))


def last_begin(wish):
    return max(slot for slot in range(64) if may_begin(wish, slot))


def filled_by_words(i, wishes):
    """The rule as the document's words tell it, slot by slot."""
    begun = []
    done = []
    slot = i
    while slot <= 63:
        able = [k for k, wish in enumerate(wishes) if k not in done and wish[1] > 0 and may_begin(wish, slot)]
        if not able:
            slot += 1
            continue
        greatest = max(wishes[k][2] for k in able)
        able = [k for k in able if wishes[k][2] == greatest]
        least = min(last_begin(wishes[k]) for k in able)
        chosen = [k for k in able if last_begin(wishes[k]) == least][0]
        done.append(chosen)
        begun.append((chosen, slot))
        slot += wishes[chosen][1]
    return answer(*begun)


def spread_wishes(count, longest, ranks, seed):
    """Wishes of up to so many slots and with so many ranks, the same each time."""
    wishes = []
    state = seed
    for mask in spread_masks(count, seed):
        drawn = []
        for _ in range(2):
            state = next_state(state)
            drawn.append(state // 2 ** 33)
        wishes.append((mask, drawn[0] % (longest + 1), drawn[1] % ranks))
    return wishes


class Ordinary(unittest.TestCase):
    def test_one_wish(self):
        self.assertEqual(fill(0, (row(5, 9), 3, 1)), [1, 0, 5])
        self.assertEqual(fill(7, (row(5, 9), 3, 1)), [1, 0, 7])

    def test_one_behind_another(self):
        self.assertEqual(fill(0, (ALL, 4, 3), (ALL, 2, 2), (ALL, 5, 1)), [3, 0, 0, 1, 4, 2, 6])

    def test_told_in_the_order_of_slots_and_not_of_wishes(self):
        self.assertEqual(fill(0, (ALL, 4, 1), (ALL, 2, 2), (ALL, 5, 3)), [3, 2, 0, 1, 5, 0, 7])

    def test_not_all_are_begun(self):
        self.assertEqual(fill(0, (row(0, 3), 4, 1), (row(2, 5), 3, 9), (row(4, 6), 2, 5)), answer((0, 0), (2, 4)))

    def test_one_of_less_rank_is_begun_while_a_greater_may_not_begin_yet(self):
        self.assertEqual(fill(0, (row(3, 9), 2, 9), (row(0, 9), 6, 1)), answer((1, 0), (0, 6)))
        self.assertEqual(fill(0, (row(3, 6), 2, 9), (row(0, 9), 6, 1)), answer((1, 0)))


class GoingOn(unittest.TestCase):
    def test_one_further_where_none_may_begin(self):
        self.assertEqual(fill(0, (mask_of(7), 1, 1)), answer((0, 7)))
        self.assertEqual(fill(0, (mask_of(1, 3), 1, 1), (mask_of(5), 1, 1)), answer((0, 1), (1, 5)))

    def test_d_further_where_one_is_begun(self):
        for d in range(1, 64):
            self.assertEqual(fill(0, (row(0, d - 1), d, 5), (ALL, 1, 1)), answer((0, 0), (1, d)))

    def test_what_may_begin_only_within_anothers_row_is_not_begun(self):
        self.assertEqual(fill(0, (row(0, 9), 5, 2), (mask_of(4), 1, 9)), answer((0, 0)))
        self.assertEqual(fill(0, (row(0, 9), 5, 2), (mask_of(5), 1, 9)), answer((0, 0), (1, 5)))

    def test_no_wish_twice(self):
        self.assertEqual(fill(0, (ALL, 1, 9)), answer((0, 0)))
        self.assertEqual(fill(0, (ALL, 3, 9), (ALL, 3, 1)), answer((0, 0), (1, 3)))
        for seed in range(30):
            told = fill(0, *spread_wishes(40, 5, 3, seed))
            self.assertEqual(len(set(told[1::2])), told[0])


class Rank(unittest.TestCase):
    def test_the_greatest_goes_ahead(self):
        for great in range(3):
            wishes = [(ALL, 30, 7 if k == great else 3) for k in range(3)]
            self.assertEqual(fill(0, *wishes)[1:3], [great, 0])

    def test_rank_goes_ahead_of_what_can_wait_least(self):
        self.assertEqual(fill(0, (mask_of(0), 1, 4), (ALL, 1, 5)), answer((1, 0)))
        self.assertEqual(fill(0, (ALL, 1, 5), (mask_of(0), 1, 4)), answer((0, 0)))

    def test_rank_0(self):
        self.assertEqual(fill(0, (ALL, 1, 0)), answer((0, 0)))
        self.assertEqual(fill(0, (ALL, 1, 0), (ALL, 1, 1)), answer((1, 0), (0, 1)))

    def test_greatest_rank_is_without_a_sign(self):
        self.assertEqual(fill(0, (ALL, 1, 1), (ALL, 1, TOP), (ALL, 1, 2 ** 31)), answer((1, 0), (2, 1), (0, 2)))


class AsGreat(unittest.TestCase):
    def test_what_can_wait_least_goes_ahead(self):
        wishes = [(row(0, 9), 1, 3), (row(0, 7), 1, 3), (row(0, 8), 1, 3)]
        self.assertEqual(fill(0, *wishes), answer((1, 0), (2, 1), (0, 2)))

    def test_the_last_slot_is_where_it_may_begin_and_not_where_its_mask_ends(self):
        self.assertEqual(fill(0, (row(0, 9), 2, 3), (row(0, 10), 5, 3)), answer((1, 0), (0, 5)))
        self.assertEqual(fill(0, (row(0, 5) | mask_of(60), 3, 3), (row(0, 5), 2, 3)), answer((0, 0), (1, 3)))

    def test_the_last_slot_is_that_of_the_whole_night(self):
        self.assertEqual(fill(0, (row(0, 3) | row(60, 61), 2, 3), (row(0, 30), 2, 3)), answer((1, 0), (0, 2)))
        self.assertEqual(fill(0, (row(0, 3) | mask_of(60), 2, 3), (row(0, 30), 2, 3)), answer((0, 0), (1, 2)))

    def test_of_such_the_first(self):
        self.assertEqual(fill(0, (ALL, 2, 3), (ALL, 2, 3), (ALL, 2, 3)), answer((0, 0), (1, 2), (2, 4)))
        self.assertEqual(fill(0, (row(0, 9), 2, 3), (row(0, 8), 1, 3)), answer((0, 0), (1, 2)))
        self.assertEqual(fill(0, (row(0, 8), 1, 3), (row(0, 9), 2, 3)), answer((0, 0), (1, 1)))

    def test_the_first_of_as_urgent_ones_behind_others(self):
        wishes = [(ALL, 1, 1), (row(0, 20), 1, 2), (row(0, 10), 1, 2), (row(0, 10), 1, 2), (ALL, 1, 2)]
        self.assertEqual(fill(0, *wishes), answer((2, 0), (3, 1), (1, 2), (4, 3), (0, 4)))


class FromSlot(unittest.TestCase):
    def test_0(self):
        self.assertEqual(fill(0, (mask_of(0), 1, 1)), answer((0, 0)))

    def test_63(self):
        self.assertEqual(fill(63, (ALL, 1, 1)), answer((0, 63)))
        self.assertEqual(fill(63, (ALL, 2, 9), (ALL, 1, 1), (ALL, 1, 2)), answer((2, 63)))

    def test_64_fills_nothing(self):
        self.assertEqual(fill(64, (ALL, 1, 1), (ALL, 0, 1)), [0])
        self.assertEqual(np_fill(64, [], []), [0])

    def test_above_64(self):
        for i in (65, 66, 128, 2 ** 31, TOP):
            self.assertEqual(fill(i, (ALL, 1, 1)), [-2])
            self.assertEqual(np_fill(i, [], []), [-2])

    def test_out_of_all_range(self):
        for i in (-1, 2 ** 32):
            self.assertEqual(fill(i, (ALL, 1, 1)), [-2])

    def test_every_slot(self):
        for i in range(64):
            self.assertEqual(fill(i, (ALL, 1, 1)), answer((0, i)))

    def test_may_begin_ahead_of_it_alone(self):
        self.assertEqual(fill(10, (row(0, 9), 2, 9), (row(0, 12), 5, 9), (mask_of(9), 1, 9)), [0])
        self.assertEqual(fill(10, (row(0, 9), 1, 9), (row(0, 10), 1, 1)), answer((1, 10)))

    def test_slots_ahead_of_it_make_no_difference_to_a_row(self):
        self.assertEqual(fill(10, (row(0, 12), 3, 9)), answer((0, 10)))


class HowLong(unittest.TestCase):
    def test_d_0_is_never_begun(self):
        self.assertEqual(fill(0, (ALL, 0, TOP)), [0])
        self.assertEqual(fill(0, (ALL, 0, 9), (ALL, 1, 1), (0, 0, 9)), answer((1, 0)))

    def test_d_1(self):
        self.assertEqual(fill(0, (mask_of(4), 1, 1), (mask_of(5), 1, 1)), answer((0, 4), (1, 5)))

    def test_d_64(self):
        self.assertEqual(fill(0, (ALL, 64, 1)), answer((0, 0)))
        self.assertEqual(fill(0, (ALL, 64, 2), (ALL, 1, 1)), answer((0, 0)))
        self.assertEqual(fill(1, (ALL, 64, 1)), [0])
        self.assertEqual(fill(0, (ALL - 1, 64, 1), (ALL - 2 ** 63, 64, 1)), [0])

    def test_d_above_64_is_never_begun(self):
        for d in (65, 66, 128, 2 ** 31, TOP):
            self.assertEqual(fill(0, (ALL, d, TOP)), [0])
            self.assertEqual(fill(0, (ALL, d, 9), (ALL, 3, 1), (ALL, d, 9)), answer((1, 0)))

    def test_a_row_that_reaches_up_to_slot_63(self):
        self.assertEqual(fill(0, (row(60, 63), 4, 1)), answer((0, 60)))
        self.assertEqual(fill(0, (row(60, 63), 5, 1)), [0])
        self.assertEqual(fill(61, (ALL, 4, 9), (ALL, 3, 1)), answer((1, 61)))
        self.assertEqual(fill(60, (ALL, 3, 9), (ALL, 1, 1), (ALL, 1, 0)), answer((0, 60), (1, 63)))

    def test_a_row_does_not_go_on_at_slot_0(self):
        self.assertEqual(fill(0, (row(62, 63) | row(0, 1), 3, 1)), [0])


class Masks(unittest.TestCase):
    def test_none(self):
        self.assertEqual(fill(0, (0, 1, 9)), [0])
        self.assertEqual(fill(0, (0, 1, 9), (ALL, 1, 1)), answer((1, 0)))

    def test_all(self):
        for d in range(1, 65):
            self.assertEqual(fill(0, (ALL, d, 1)), answer((0, 0)))
            self.assertEqual(fill(64 - d, (ALL, d, 1)), answer((0, 64 - d)))
            self.assertEqual(fill(65 - d, (ALL, d, 1)), [0])

    def test_number_that_is_no_mask(self):
        for number in (2 ** 64, -1):
            self.assertEqual(fill(0, (ALL, 1, 1), (number, 1, 1)), [-2])

    def test_d_or_rank_out_of_range(self):
        for number in (2 ** 32, -1):
            self.assertEqual(fill(0, (ALL, 1, 1), (ALL, number, 1)), [-2])
            self.assertEqual(fill(0, (ALL, 1, 1), (ALL, 1, number)), [-2])


class HowMany(unittest.TestCase):
    def test_no_wish(self):
        for i in (0, 5, 63, 64):
            self.assertEqual(np_fill(i, [], []), [0])

    def test_256_wishes(self):
        self.assertEqual(fill(0, *[(ALL, 1, 1)] * 256), answer(*[(slot, slot) for slot in range(64)]))
        self.assertEqual(fill(0, *[(ALL, 65, 1)] * 255, (ALL, 1, 1)), answer((255, 0)))
        wishes = spread_wishes(256, 4, 6, 5)
        self.assertEqual(fill(0, *wishes), filled_by_words(0, wishes))

    def test_more_than_256_wishes(self):
        for count in (257, 258, 260):
            self.assertEqual(fill(0, *[(ALL, 1, 1)] * count), [-2])
            self.assertEqual(fill(64, *[(0, 0, 0)] * count), [-2])
            self.assertEqual(fill(65, *[(ALL, 1, 1)] * count), [-2])


class AgainstTheWords(unittest.TestCase):
    def check(self, wishes, *slots):
        for i in slots:
            self.assertEqual(fill(i, *wishes), filled_by_words(i, wishes))

    def test_few_wishes(self):
        for count in range(1, 7):
            for seed in range(40):
                self.check(spread_wishes(count, 1 + seed % 6, 1 + seed % 3, 50 * count + seed), 0, 20, 63, 64)

    def test_many_wishes(self):
        for seed in range(25):
            self.check(spread_wishes(30 + seed, 2 + seed % 9, 1 + seed % 5, seed), 0, 1, 31, 60)

    def test_rows_that_crowd_one_another(self):
        for seed in range(60):
            spread = spread_wishes(25, 9, 2, seed)
            wishes = [(row(mask % 50, min(63, mask % 50 + mask // 64 % 20)), d, rank) for mask, d, rank in spread]
            self.check(wishes, 0, 9, 33)

    def test_great_numbers(self):
        for seed in range(10):
            self.check(spread_wishes(20, TOP, TOP + 1, seed), 0)
            self.check([(mask, d % 5, rank) for mask, d, rank in spread_wishes(20, TOP, TOP + 1, seed)], 0, 50)


class StandsAlone(unittest.TestCase):
    def test_nothing_is_changed_or_kept(self):
        check_stands_alone(self, np_fill, 0, [], [])
        for seed in range(5):
            wishes = spread_wishes(40, 5, 4, seed)
            numbers = [number for _, d, rank in wishes for number in (d, rank)]
            check_stands_alone(self, np_fill, seed, [mask for mask, _, _ in wishes], numbers)

    def test_nothing_is_changed_or_kept_at_a_refusal(self):
        check_stands_alone(self, np_fill, 65, [ALL], [1, 1])
        check_stands_alone(self, np_fill, 0, [ALL] * 257, [1] * 514)

    def test_other_calls_between_make_no_difference(self):
        wishes = spread_wishes(20, 5, 4, 7)
        before = fill(2, *wishes)
        fill(0, *wishes[::-1])
        fill(65, *wishes)
        self.assertEqual(fill(2, *wishes), before)

    def test_arguments_have_their_names(self):
        self.assertEqual(np_fill(i=1, l=[ALL, 6], w=[1, 4, 2, 5]), [2, 1, 1, 0, 3])

    def test_answer_is_a_list_of_plain_numbers(self):
        for told in (fill(0, (ALL, 1, 1), (ALL, 2, 2)), np_fill(0, [], []), np_fill(65, [], [])):
            check_plain(self, told)


if __name__ == "__main__":
    unittest.main()
