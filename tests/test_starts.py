"""Point 2: np_starts."""

import unittest

from helper import ALL, check_plain, check_stands_alone, mask_of, row, spread_masks
from nightplan.plan import np_starts


def expected(d, masks):
    """The document's words, slot by slot."""
    answer = [0]
    for mask in masks:
        starts = 0
        for i in range(64):
            if d == 0 or (i + d - 1 <= 63 and all(mask >> j & 1 for j in range(i, i + d))):
                starts += 2 ** i
        answer.append(starts)
    return answer


class Ordinary(unittest.TestCase):
    def test_several_rows(self):
        mask = row(2, 4) | row(10, 11) | row(20, 25)
        self.assertEqual(np_starts(3, [mask]), [0, mask_of(2, 20, 21, 22, 23)])
        self.assertEqual(np_starts(2, [mask]), [0, mask_of(2, 3, 10, 20, 21, 22, 23, 24)])
        self.assertEqual(np_starts(7, [mask]), [0, 0])

    def test_masks_stand_in_their_order(self):
        self.assertEqual(np_starts(2, [3, 0, 6, ALL, 5]), [0, 1, 0, 2, 2 ** 63 - 1, 0])

    def test_every_d_as_the_document_tells(self):
        masks = spread_masks(30, 5) + [0, ALL, 1, 2 ** 63, row(1, 63), row(0, 62), row(40, 63), ALL - 2 ** 31]
        for d in range(65):
            self.assertEqual(np_starts(d, masks), expected(d, masks))


class HowLong(unittest.TestCase):
    def test_d_0_all_slots(self):
        self.assertEqual(np_starts(0, [0, 1, 2 ** 63, ALL]), [0, ALL, ALL, ALL, ALL])

    def test_d_1_the_mask_itself(self):
        masks = [0, 1, 2 ** 63, ALL] + spread_masks(9, 3)
        self.assertEqual(np_starts(1, masks), [0] + masks)

    def test_d_2(self):
        self.assertEqual(np_starts(2, [0b1101110]), [0, 0b0100110])

    def test_d_63(self):
        self.assertEqual(np_starts(63, [ALL, row(0, 62), row(1, 63), row(0, 61), row(2, 63)]), [0, 3, 1, 2, 0, 0])

    def test_d_64(self):
        self.assertEqual(np_starts(64, [ALL, row(0, 62), row(1, 63), 0]), [0, 1, 0, 0, 0])

    def test_d_above_64(self):
        for d in (65, 66, 128, 2 ** 31, 2 ** 32 - 1):
            self.assertEqual(np_starts(d, [ALL]), [-2])
            self.assertEqual(np_starts(d, []), [-2])

    def test_d_out_of_all_range(self):
        self.assertEqual(np_starts(-1, [ALL]), [-2])
        self.assertEqual(np_starts(2 ** 32, [ALL]), [-2])


class Masks(unittest.TestCase):
    def test_none(self):
        for d in range(1, 65):
            self.assertEqual(np_starts(d, [0]), [0, 0])

    def test_all(self):
        for d in range(1, 65):
            self.assertEqual(np_starts(d, [ALL]), [0, row(0, 64 - d)])

    def test_one_slot(self):
        for slot in range(64):
            self.assertEqual(np_starts(1, [2 ** slot]), [0, 2 ** slot])
            self.assertEqual(np_starts(2, [2 ** slot]), [0, 0])

    def test_slot_63_is_the_last(self):
        self.assertEqual(np_starts(1, [2 ** 63]), [0, 2 ** 63])
        self.assertEqual(np_starts(2, [2 ** 63]), [0, 0])
        self.assertEqual(np_starts(2, [mask_of(0, 63)]), [0, 0])

    def test_rows_that_end_at_slot_63(self):
        self.assertEqual(np_starts(3, [row(61, 63)]), [0, mask_of(61)])
        self.assertEqual(np_starts(4, [row(61, 63)]), [0, 0])
        self.assertEqual(np_starts(3, [row(60, 63) | row(0, 2)]), [0, mask_of(0, 60, 61)])

    def test_a_row_does_not_go_on_at_slot_0(self):
        self.assertEqual(np_starts(4, [row(62, 63) | row(0, 2)]), [0, 0])

    def test_number_that_is_no_mask(self):
        self.assertEqual(np_starts(1, [2 ** 64]), [-2])
        self.assertEqual(np_starts(1, [0, -1]), [-2])


class HowMany(unittest.TestCase):
    def test_no_mask(self):
        for d in (0, 1, 64):
            self.assertEqual(np_starts(d, []), [0])

    def test_1024_masks(self):
        masks = spread_masks(1024, 11)
        for d in (0, 1, 2, 5):
            self.assertEqual(np_starts(d, masks), expected(d, masks))

    def test_more_than_1024_masks(self):
        for count in (1025, 1026, 1027):
            self.assertEqual(np_starts(1, [1] * count), [-2])
            self.assertEqual(np_starts(0, [0] * count), [-2])
            self.assertEqual(np_starts(65, [1] * count), [-2])


class StandsAlone(unittest.TestCase):
    def test_nothing_is_changed_or_kept(self):
        for d in (0, 1, 2, 64):
            check_stands_alone(self, np_starts, d, spread_masks(20, d))
            check_stands_alone(self, np_starts, d, [])

    def test_nothing_is_changed_or_kept_at_a_refusal(self):
        check_stands_alone(self, np_starts, 65, [ALL, 1])
        check_stands_alone(self, np_starts, 1, [ALL] * 1025)

    def test_other_calls_between_make_no_difference(self):
        masks = spread_masks(20, 9)
        before = np_starts(3, masks)
        np_starts(0, [ALL])
        np_starts(65, masks)
        self.assertEqual(np_starts(3, masks), before)

    def test_arguments_have_their_names(self):
        self.assertEqual(np_starts(d=2, l=[6]), [0, 2])

    def test_answer_is_a_list_of_plain_numbers(self):
        for answer in (np_starts(2, [7, 0]), np_starts(0, [1]), np_starts(1, [5]), np_starts(65, [])):
            check_plain(self, answer)


if __name__ == "__main__":
    unittest.main()
