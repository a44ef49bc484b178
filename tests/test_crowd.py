"""Point 2: np_crowd."""

import unittest

from helper import ALL, check_plain, check_stands_alone, mask_of, row, spread_masks
from nightplan.plan import np_crowd


def expected(masks):
    """The document's words, slot by slot."""
    return [0] + [sum(mask >> slot & 1 for mask in masks) for slot in range(64)]


def counts(told):
    """The answer in which the slots told have their counts, all others 0."""
    return [0] + [told.get(slot, 0) for slot in range(64)]


class Ordinary(unittest.TestCase):
    def test_one_mask(self):
        self.assertEqual(np_crowd([mask_of(2, 5, 6)]), counts({2: 1, 5: 1, 6: 1}))

    def test_masks_that_share_slots(self):
        self.assertEqual(
            np_crowd([row(3, 5), row(4, 7), mask_of(5, 20)]),
            counts({3: 1, 4: 2, 5: 3, 6: 1, 7: 1, 20: 1}),
        )

    def test_masks_that_share_none(self):
        self.assertEqual(np_crowd([mask_of(1), mask_of(9), mask_of(30)]), counts({1: 1, 9: 1, 30: 1}))

    def test_the_same_mask_several_times(self):
        self.assertEqual(np_crowd([mask_of(4, 40)] * 5), counts({4: 5, 40: 5}))
        self.assertEqual(np_crowd([6, 1, 6, 1, 6]), counts({0: 2, 1: 3, 2: 3}))

    def test_the_order_of_masks_makes_no_difference(self):
        masks = spread_masks(30, 3)
        self.assertEqual(np_crowd(masks[::-1]), np_crowd(masks))

    def test_many_masks_as_the_document_tells(self):
        for count in range(1, 40):
            masks = spread_masks(count, count)
            self.assertEqual(np_crowd(masks), expected(masks))


class Edges(unittest.TestCase):
    def test_none_and_all(self):
        self.assertEqual(np_crowd([0]), [0] + [0] * 64)
        self.assertEqual(np_crowd([ALL]), [0] + [1] * 64)
        self.assertEqual(np_crowd([ALL, 0, ALL]), [0] + [2] * 64)

    def test_slot_0_and_slot_63(self):
        self.assertEqual(np_crowd([1]), [0, 1] + [0] * 63)
        self.assertEqual(np_crowd([2 ** 63]), [0] + [0] * 63 + [1])
        self.assertEqual(np_crowd([1, 2 ** 63, 2 ** 63 + 1]), counts({0: 2, 63: 2}))

    def test_every_single_slot(self):
        for slot in range(64):
            self.assertEqual(np_crowd([2 ** slot]), counts({slot: 1}))


class HowMany(unittest.TestCase):
    def test_no_mask(self):
        self.assertEqual(np_crowd([]), [0] + [0] * 64)

    def test_always_64_numbers_behind_the_0(self):
        for masks in ([], [0], [1], [ALL] * 3, spread_masks(100, 6)):
            answer = np_crowd(masks)
            self.assertEqual(answer[0], 0)
            self.assertEqual(len(answer), 65)

    def test_1024_masks(self):
        masks = spread_masks(1024, 12)
        self.assertEqual(np_crowd(masks), expected(masks))
        self.assertEqual(np_crowd([ALL] * 1024), [0] + [1024] * 64)
        self.assertEqual(np_crowd([0] * 1024), [0] + [0] * 64)

    def test_more_than_1024_masks(self):
        for count in (1025, 1026, 1027):
            self.assertEqual(np_crowd([1] * count), [-2])
            self.assertEqual(np_crowd([0] * count), [-2])

    def test_number_that_is_no_mask(self):
        for number in (2 ** 64, -1):
            self.assertEqual(np_crowd([number]), [-2])
            self.assertEqual(np_crowd([1, 0, number]), [-2])


class StandsAlone(unittest.TestCase):
    def test_nothing_is_changed_or_kept(self):
        for masks in ([], [0], spread_masks(20, 1), [ALL] * 1024):
            check_stands_alone(self, np_crowd, masks)

    def test_nothing_is_changed_or_kept_at_a_refusal(self):
        check_stands_alone(self, np_crowd, [ALL] * 1025)

    def test_other_calls_between_make_no_difference(self):
        masks = spread_masks(20, 2)
        before = np_crowd(masks)
        np_crowd([ALL, 0])
        np_crowd([1] * 1025)
        self.assertEqual(np_crowd(masks), before)

    def test_argument_has_its_name(self):
        self.assertEqual(np_crowd(l=[6]), counts({1: 1, 2: 1}))

    def test_answer_is_a_list_of_plain_numbers(self):
        for answer in (np_crowd([7, 0]), np_crowd([]), np_crowd([1] * 1025)):
            check_plain(self, answer)


if __name__ == "__main__":
    unittest.main()
