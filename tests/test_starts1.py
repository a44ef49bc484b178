"""Point 2: np_starts1."""

import unittest

from helper import ALL, check_plain, check_stands_alone, mask_of, row, spread_masks
from nightplan.plan import np_facts, np_starts, np_starts1

TOP = 2 ** 32 - 1
MASKS = [0, 1, 2 ** 63, ALL, row(1, 63), row(0, 62), row(40, 63), ALL - 2 ** 31, mask_of(0, 63)] + spread_masks(30, 7)


def expected(d, mask):
    """The document's words, slot by slot."""
    d = min(d, 64)
    return [sum(i + d <= 64 and all(mask >> j & 1 for j in range(i, i + d)) for i in range(64))]


class HowLong(unittest.TestCase):
    def test_d_0_all_slots(self):
        for mask in MASKS:
            self.assertEqual(np_starts1(0, mask), [64])

    def test_d_1_how_many_slots_the_mask_has(self):
        for mask in MASKS:
            self.assertEqual(np_starts1(1, mask), [bin(mask).count("1")])

    def test_d_63(self):
        for mask, count in ((ALL, 2), (row(0, 62), 1), (row(1, 63), 1), (row(0, 61), 0), (row(2, 63), 0)):
            self.assertEqual(np_starts1(63, mask), [count])

    def test_d_64(self):
        for mask, count in ((ALL, 1), (row(0, 62), 0), (row(1, 63), 0), (ALL - 2 ** 31, 0), (0, 0)):
            self.assertEqual(np_starts1(64, mask), [count])

    def test_d_above_64_as_64(self):
        for d in (65, 66, 127, 128, 2 ** 31, TOP):
            for mask in MASKS:
                self.assertEqual(np_starts1(d, mask), [1 if mask == ALL else 0])

    def test_every_d_as_the_document_tells(self):
        for d in range(70):
            for mask in MASKS:
                self.assertEqual(np_starts1(d, mask), expected(d, mask))

    def test_as_many_as_np_starts_and_np_facts_tell(self):
        for d in range(65):
            starts = np_starts(d, MASKS)[1:]
            facts = np_facts(starts)[1:]
            self.assertEqual([np_starts1(d, mask)[0] for mask in MASKS], facts[::5])


class Masks(unittest.TestCase):
    def test_none(self):
        for d in (1, 2, 63, 64, 65, TOP):
            self.assertEqual(np_starts1(d, 0), [0])

    def test_all(self):
        for d in range(1, 65):
            self.assertEqual(np_starts1(d, 18446744073709551615), [65 - d])

    def test_one_slot(self):
        for slot in range(64):
            self.assertEqual(np_starts1(1, 2 ** slot), [1])
            self.assertEqual(np_starts1(2, 2 ** slot), [0])

    def test_rows_at_the_beginning_at_the_end_and_between(self):
        for mask in (row(0, 4), row(59, 63), row(30, 34)):
            for d, count in ((1, 5), (3, 3), (4, 2), (5, 1), (6, 0), (7, 0)):
                self.assertEqual(np_starts1(d, mask), [count])

    def test_several_rows(self):
        mask = row(0, 2) | row(10, 11) | row(58, 63)
        for d, count in ((1, 11), (2, 8), (3, 5), (4, 3), (6, 1), (7, 0)):
            self.assertEqual(np_starts1(d, mask), [count])

    def test_a_row_does_not_go_on_at_slot_0(self):
        self.assertEqual(np_starts1(2, mask_of(0, 63)), [0])
        self.assertEqual(np_starts1(4, row(62, 63) | row(0, 2)), [0])


class Refusals(unittest.TestCase):
    def test_d_out_of_range(self):
        for d in (2 ** 32, -1):
            self.assertEqual(np_starts1(d, ALL), [-2])

    def test_number_that_is_no_mask(self):
        for number in (2 ** 64, -1):
            self.assertEqual(np_starts1(1, number), [-2])
            self.assertEqual(np_starts1(0, number), [-2])


class StandsAlone(unittest.TestCase):
    def test_nothing_is_kept(self):
        for d in (0, 1, 2, 64, 65, TOP):
            check_stands_alone(self, np_starts1, d, row(3, 20))

    def test_other_calls_between_make_no_difference(self):
        before = np_starts1(3, row(3, 20))
        np_starts1(0, ALL)
        np_starts1(TOP, 0)
        self.assertEqual(np_starts1(3, row(3, 20)), before)

    def test_arguments_have_their_names(self):
        self.assertEqual(np_starts1(d=2, m=7), [2])

    def test_answer_is_a_list_of_one_plain_number(self):
        for told in (np_starts1(0, 0), np_starts1(1, 0), np_starts1(2, ALL), np_starts1(TOP, ALL)):
            check_plain(self, told)
            self.assertEqual(len(told), 1)


if __name__ == "__main__":
    unittest.main()
