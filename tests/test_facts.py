"""Point 2: np_facts."""

import unittest

from helper import ALL, check_plain, check_stands_alone, mask_of, row, spread_masks
from nightplan.plan import np_facts

NONE = [0, 64, 64, 0, 0]


def rows_of(mask):
    """Of each slot at which a row begins the slot and the row's length, rising."""
    bits = [mask >> slot & 1 for slot in range(64)] + [0]
    begins = [slot for slot in range(64) if bits[slot] and (slot == 0 or not bits[slot - 1])]
    return [(begin, bits.index(0, begin) - begin) for begin in begins]


def expected(masks):
    """The document's words, by the rows of each mask."""
    answer = [0]
    for mask in masks:
        rows = rows_of(mask)
        if not rows:
            answer += NONE
            continue
        length = max(length for _, length in rows)
        begin = min(begin for begin, other in rows if other == length)
        answer += [bin(mask).count("1"), rows[0][0], sum(rows[-1]) - 1, begin, length]
    return answer


def facts(mask):
    """The five numbers of one mask."""
    answer = np_facts([mask])
    return answer[1:] if answer[0] == 0 else answer


class OneRow(unittest.TestCase):
    def test_none(self):
        self.assertEqual(np_facts([0]), [0, 0, 64, 64, 0, 0])

    def test_all(self):
        self.assertEqual(np_facts([ALL]), [0, 64, 0, 63, 0, 64])

    def test_one_slot(self):
        self.assertEqual(facts(1), [1, 0, 0, 0, 1])
        self.assertEqual(facts(2 ** 63), [1, 63, 63, 63, 1])
        self.assertEqual(facts(2 ** 20), [1, 20, 20, 20, 1])

    def test_every_row(self):
        for first in range(64):
            for last in range(first, 64):
                length = last - first + 1
                self.assertEqual(facts(row(first, last)), [length, first, last, first, length])

    def test_at_the_beginning_at_the_end_and_between(self):
        self.assertEqual(facts(row(0, 4)), [5, 0, 4, 0, 5])
        self.assertEqual(facts(row(60, 63)), [4, 60, 63, 60, 4])
        self.assertEqual(facts(row(31, 33)), [3, 31, 33, 31, 3])


class SeveralRows(unittest.TestCase):
    def test_the_first_is_the_longest(self):
        self.assertEqual(facts(row(2, 9) | row(20, 22) | row(40, 44)), [16, 2, 44, 2, 8])
        self.assertEqual(facts(row(0, 3) | row(61, 63)), [7, 0, 63, 0, 4])

    def test_a_middle_one_is_the_longest(self):
        self.assertEqual(facts(row(2, 4) | row(20, 26) | row(40, 44)), [15, 2, 44, 20, 7])
        self.assertEqual(facts(mask_of(0, 63) | row(30, 31)), [4, 0, 63, 30, 2])

    def test_the_last_is_the_longest(self):
        self.assertEqual(facts(row(2, 4) | row(20, 23) | row(40, 44)), [12, 2, 44, 40, 5])
        self.assertEqual(facts(row(0, 2) | row(60, 63)), [7, 0, 63, 60, 4])

    def test_of_two_as_long_the_first(self):
        self.assertEqual(facts(row(5, 7) | row(30, 32)), [6, 5, 32, 5, 3])
        self.assertEqual(facts(row(0, 2) | row(61, 63)), [6, 0, 63, 0, 3])
        self.assertEqual(facts(mask_of(0, 63)), [2, 0, 63, 0, 1])

    def test_of_more_as_long_the_first(self):
        self.assertEqual(facts(mask_of(1) | row(10, 13) | row(20, 23) | row(30, 33) | row(40, 42)), [16, 1, 42, 10, 4])
        self.assertEqual(facts(mask_of(*range(1, 64, 2))), [32, 1, 63, 1, 1])
        self.assertEqual(facts(mask_of(*range(0, 64, 2))), [32, 0, 62, 0, 1])

    def test_rows_one_slot_apart(self):
        self.assertEqual(facts(row(0, 2) | row(4, 7)), [7, 0, 7, 4, 4])
        self.assertEqual(facts(ALL - 2 ** 31), [63, 0, 63, 32, 32])
        self.assertEqual(facts(ALL - 2 ** 32), [63, 0, 63, 0, 32])

    def test_a_row_does_not_go_on_at_slot_0(self):
        self.assertEqual(facts(row(62, 63) | row(0, 1) | row(20, 22)), [7, 0, 63, 20, 3])


class HowMany(unittest.TestCase):
    def test_five_for_each_mask_by_mask(self):
        self.assertEqual(
            np_facts([row(3, 5), 0, ALL, 1, 0]),
            [0] + [3, 3, 5, 3, 3] + NONE + [64, 0, 63, 0, 64] + [1, 0, 0, 0, 1] + NONE,
        )

    def test_no_mask(self):
        self.assertEqual(np_facts([]), [0])

    def test_1024_masks(self):
        masks = spread_masks(1022, 4) + [0, ALL]
        answer = np_facts(masks)
        self.assertEqual(len(answer), 1 + 5 * 1024)
        self.assertEqual(answer, expected(masks))

    def test_more_than_1024_masks(self):
        for count in (1025, 1026, 1027):
            self.assertEqual(np_facts([1] * count), [-2])
            self.assertEqual(np_facts([0] * count), [-2])

    def test_number_that_is_no_mask(self):
        for number in (2 ** 64, -1):
            self.assertEqual(np_facts([number]), [-2])
            self.assertEqual(np_facts([1, 0, number]), [-2])


class StandsAlone(unittest.TestCase):
    def test_nothing_is_changed_or_kept(self):
        for masks in ([], [0], spread_masks(20, 1), [ALL] * 1024):
            check_stands_alone(self, np_facts, masks)

    def test_nothing_is_changed_or_kept_at_a_refusal(self):
        check_stands_alone(self, np_facts, [ALL] * 1025)

    def test_other_calls_between_make_no_difference(self):
        masks = spread_masks(20, 2)
        before = np_facts(masks)
        np_facts([ALL, 0])
        np_facts([1] * 1025)
        self.assertEqual(np_facts(masks), before)

    def test_argument_has_its_name(self):
        self.assertEqual(np_facts(l=[6]), [0, 2, 1, 2, 1, 2])

    def test_answer_is_a_list_of_plain_numbers(self):
        for answer in (np_facts([7, 0]), np_facts([]), np_facts([1] * 1025)):
            check_plain(self, answer)


if __name__ == "__main__":
    unittest.main()
