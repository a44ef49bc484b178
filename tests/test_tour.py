"""Point 4: np_tour."""

import itertools
import unittest

from helper import FASTEST, HIGH, LOW, check_plain, check_stands_alone, spread_places, turning, words
from nightplan.plan import np_tour


def tour(va, vb, i, *places):
    return np_tour(va, vb, i, words(*places))


def answer(order, together):
    """The form of an answer: how many, how many again, the places, 1, all turnings together."""
    return [len(order), len(order)] + order + [1, together]


def expected(va, vb, i, *places):
    """The first of the shortest among all orders, which come as the document puts them in order."""
    shortest = None
    for order in itertools.permutations(other for other in range(len(places)) if other != i):
        gone = (i, *order)
        together = sum(turning(va, vb, places[a], places[b]) for a, b in zip(gone, gone[1:]))
        if shortest is None or together < shortest[1]:
            shortest = (list(order), together)
    return answer(*shortest)


class Ordinary(unittest.TestCase):
    def test_along_a_line(self):
        self.assertEqual(tour(1, 1, 0, (0, 0), (5, 0), (2, 0), (9, 0)), answer([2, 1, 3], 9))

    def test_the_tour_does_not_come_back(self):
        self.assertEqual(tour(1, 1, 0, (0, 0), (10, 0), (-1, 0)), answer([2, 1], 12))

    def test_the_nearest_is_not_always_the_first(self):
        self.assertEqual(tour(1, 1, 0, (0, 0), (-5, 0), (4, 0), (20, 0)), answer([1, 2, 3], 30))

    def test_from_each_place(self):
        places = [(0, 0), (10, 0), (3, 0)]
        self.assertEqual(tour(1, 1, 0, *places), answer([2, 1], 10))
        self.assertEqual(tour(1, 1, 1, *places), answer([2, 0], 10))
        self.assertEqual(tour(1, 1, 2, *places), answer([0, 1], 13))


class Turning(unittest.TestCase):
    def test_rounded_up(self):
        for far, by, taken in ((0, 2, 0), (1, 2, 1), (2, 2, 1), (3, 2, 2), (7, 3, 3), (6, 3, 2), (1, FASTEST, 1)):
            self.assertEqual(tour(by, 1, 0, (0, 0), (far, 0)), answer([1], taken))
            self.assertEqual(tour(by, 1, 0, (far, 0), (0, 0)), answer([1], taken))
            self.assertEqual(tour(1, by, 0, (0, 0), (0, far)), answer([1], taken))
            self.assertEqual(tour(1, by, 0, (0, far), (0, 0)), answer([1], taken))

    def test_each_turning_is_rounded_by_itself(self):
        self.assertEqual(tour(10, 1, 0, (0, 0), (1, 0), (2, 0), (3, 0)), answer([1, 2, 3], 3))

    def test_the_first_words_decide(self):
        self.assertEqual(tour(2, 3, 0, (0, 0), (10, 12)), answer([1], 5))

    def test_the_second_words_decide(self):
        self.assertEqual(tour(2, 3, 0, (0, 0), (10, 18)), answer([1], 6))

    def test_the_greater_of_both_and_not_their_sum(self):
        self.assertEqual(tour(1, 1, 0, (0, 0), (7, 7)), answer([1], 7))
        self.assertEqual(tour(1, 1, 0, (1, 2), (-3, 9)), answer([1], 7))

    def test_rounding_decides_between_the_words(self):
        self.assertEqual(tour(4, 5, 0, (0, 0), (9, 10)), answer([1], 3))
        self.assertEqual(tour(5, 4, 0, (0, 0), (10, 9)), answer([1], 3))

    def test_the_order_is_by_turning_and_not_by_distance(self):
        places = [(0, 0), (100, 0), (0, 30)]
        self.assertEqual(tour(100, 1, 0, *places), answer([1, 2], 31))
        self.assertEqual(tour(1, 100, 0, *places), answer([2, 1], 101))


class Speeds(unittest.TestCase):
    def test_1(self):
        self.assertEqual(tour(1, 1, 0, (0, 0), (5, -6)), answer([1], 6))

    def test_greatest(self):
        self.assertEqual(tour(FASTEST, FASTEST, 0, (0, 0), (FASTEST, 0)), answer([1], 1))
        self.assertEqual(tour(FASTEST, FASTEST, 0, (0, 0), (FASTEST + 1, 0)), answer([1], 2))
        self.assertEqual(tour(FASTEST, FASTEST, 0, (LOW, LOW), (HIGH, HIGH)), answer([1], 4096))

    def test_out_of_range(self):
        for speed in (0, FASTEST + 1, 2 ** 31, 2 ** 32 - 1, 2 ** 32, -1):
            self.assertEqual(tour(speed, 1, 0, (0, 0), (1, 1)), [-2])
            self.assertEqual(tour(1, speed, 0, (0, 0), (1, 1)), [-2])
            self.assertEqual(tour(speed, speed, 0, (0, 0)), [-2])
            self.assertEqual(np_tour(speed, 1, 0, []), [-2])
            self.assertEqual(np_tour(1, speed, 0, []), [-2])


class Signs(unittest.TestCase):
    def test_words_below_0(self):
        self.assertEqual(np_tour(1, 1, 0, [4294967295, 0, 1, 0]), answer([1], 2))
        self.assertEqual(np_tour(1, 1, 0, [0, 4294967294, 0, 3]), answer([1], 5))
        self.assertEqual(tour(1, 1, 0, (-3, -4), (-8, -1)), answer([1], 5))

    def test_as_far_apart_as_words_can_be(self):
        self.assertEqual(tour(1, 1, 0, (LOW, 0), (HIGH, 0)), answer([1], 2 ** 32 - 1))
        self.assertEqual(tour(1, 1, 0, (0, HIGH), (0, LOW)), answer([1], 2 ** 32 - 1))
        self.assertEqual(tour(2, 2, 0, (LOW, LOW), (HIGH, HIGH)), answer([1], 2 ** 31))

    def test_all_turnings_together_above_2_to_the_32(self):
        corners = [(LOW, LOW), (HIGH, HIGH), (LOW, HIGH), (HIGH, LOW)]
        self.assertEqual(tour(1, 1, 0, *corners), answer([1, 2, 3], 3 * (2 ** 32 - 1)))

    def test_halfway_round_is_not_nearer(self):
        self.assertEqual(tour(1, 1, 0, (HIGH, 0), (LOW, 0), (0, 0)), answer([2, 1], 2 ** 32 - 1))


class AsShort(unittest.TestCase):
    def test_places_that_are_the_same(self):
        self.assertEqual(tour(3, 5, 0, *[(7, -7)] * 4), answer([1, 2, 3], 0))
        self.assertEqual(tour(3, 5, 2, *[(7, -7)] * 4), answer([0, 1, 3], 0))
        self.assertEqual(tour(1, 1, 7, *[(7, -7)] * 8), answer([0, 1, 2, 3, 4, 5, 6], 0))

    def test_some_places_are_the_same(self):
        self.assertEqual(tour(1, 1, 0, (0, 0), (4, 0), (1, 0), (4, 0), (1, 0)), answer([2, 4, 1, 3], 4))
        self.assertEqual(tour(1, 1, 1, (0, 0), (0, 0), (9, 9)), answer([0, 2], 9))

    def test_on_both_sides_as_far(self):
        self.assertEqual(tour(1, 1, 0, (0, 0), (5, 0), (-5, 0)), answer([1, 2], 15))
        self.assertEqual(tour(1, 1, 0, (0, 0), (-5, 0), (5, 0)), answer([1, 2], 15))
        self.assertEqual(tour(1, 1, 2, (5, 0), (-5, 0), (0, 0)), answer([0, 1], 15))

    def test_the_second_place_decides(self):
        self.assertEqual(tour(1, 1, 0, (0, 0), (10, 0), (10, 10), (0, 10)), answer([1, 2, 3], 30))
        self.assertEqual(tour(1, 1, 0, (0, 0), (1, 0), (3, 0), (3, 0)), answer([1, 2, 3], 3))

    def test_rounding_makes_tours_as_short(self):
        self.assertEqual(tour(100, 100, 0, (0, 0), (9, 0), (3, 0), (6, 0)), answer([1, 2, 3], 3))


class AgainstAllOrders(unittest.TestCase):
    def check(self, count, reach, seed):
        places = spread_places(count, reach, seed)
        va = 1 + seed % 5
        vb = 1 + seed // 5 % 4
        for i in range(count):
            self.assertEqual(tour(va, vb, i, *places), expected(va, vb, i, *places))

    def test_few_places_near_one_another(self):
        for count in range(1, 6):
            for seed in range(40):
                self.check(count, 1 + seed % 7, 50 * count + seed)

    def test_few_places_far_apart(self):
        for count in range(2, 6):
            for seed in range(10):
                self.check(count, HIGH, 50 * count + seed)

    def test_six_places(self):
        for seed in range(6):
            self.check(6, 2 + seed * seed, seed)

    def test_eight_places(self):
        for seed in range(4):
            places = spread_places(8, 3 + 9 * seed, seed)
            i = 7 - 2 * seed
            self.assertEqual(tour(2, 3, i, *places), expected(2, 3, i, *places))


class HowMany(unittest.TestCase):
    def test_one_place(self):
        self.assertEqual(np_tour(1, 1, 0, [5, 6]), [0, 0, 1, 0])

    def test_two_places(self):
        self.assertEqual(np_tour(1, 1, 0, [5, 6, 8, 7]), [1, 1, 1, 1, 3])
        self.assertEqual(np_tour(1, 1, 1, [5, 6, 8, 7]), [1, 1, 0, 1, 3])

    def test_eight_places(self):
        places = [(10 * (3 * number % 8), 0) for number in range(8)]
        self.assertEqual(tour(10, 1, 0, *places), answer([3, 6, 1, 4, 7, 2, 5], 7))
        self.assertEqual(tour(10, 1, 5, *places), answer([2, 7, 4, 1, 6, 3, 0], 7))

    def test_more_than_eight_places(self):
        for count in (9, 10):
            self.assertEqual(tour(1, 1, 0, *[(number, 0) for number in range(count)]), [-2])
            self.assertEqual(tour(1, 1, 8, *[(0, 0)] * count), [-2])

    def test_n_less_1_are_told(self):
        for count in range(1, 9):
            told = tour(1, 1, count - 1, *spread_places(count, 9, count))
            self.assertEqual(told[:2], [count - 1, count - 1])
            self.assertEqual(sorted(told[2:-2]), list(range(count - 1)))
            self.assertEqual(told[-2], 1)


class Refusals(unittest.TestCase):
    def test_i_is_not_below_n(self):
        for count in range(9):
            places = [(number, 0) for number in range(count)]
            for i in (count, count + 1, count + 2, 2 ** 31, 2 ** 32 - 1):
                self.assertEqual(tour(1, 1, i, *places), [-3])

    def test_no_place_at_all(self):
        self.assertEqual(np_tour(1, 1, 0, []), [-3])
        self.assertEqual(np_tour(FASTEST, FASTEST, 5, []), [-3])

    def test_i_0_and_the_last(self):
        for count in range(1, 9):
            places = [(number, 0) for number in range(count)]
            others = list(range(count))
            self.assertEqual(tour(1, 1, 0, *places), answer(others[1:], count - 1))
            self.assertEqual(tour(1, 1, count - 1, *places), answer(others[:-1][::-1], count - 1))

    def test_number_out_of_range(self):
        for number in (2 ** 32, -1):
            self.assertEqual(np_tour(1, 1, number, [0, 0]), [-2])
            self.assertEqual(np_tour(1, 1, 0, [0, number]), [-2])
            self.assertEqual(np_tour(1, 1, 0, [0, 0, number, 0]), [-2])

    def test_out_of_range_goes_ahead(self):
        self.assertEqual(tour(0, 1, 2, (0, 0), (1, 1)), [-2])
        self.assertEqual(tour(1, 0, 2, (0, 0), (1, 1)), [-2])
        self.assertEqual(tour(FASTEST + 1, 1, 2, (0, 0), (1, 1)), [-2])
        self.assertEqual(tour(1, FASTEST + 1, 2, (0, 0), (1, 1)), [-2])
        self.assertEqual(tour(1, 1, 9, *[(0, 0)] * 9), [-2])
        self.assertEqual(np_tour(1, 1, 3, [0, 2 ** 32]), [-2])


class StandsAlone(unittest.TestCase):
    def test_nothing_is_changed_or_kept(self):
        check_stands_alone(self, np_tour, 1, 1, 0, [5, 6])
        for count in range(1, 9):
            check_stands_alone(self, np_tour, 2, 3, count // 2, words(*spread_places(count, 20, count)))

    def test_nothing_is_changed_or_kept_at_a_refusal(self):
        check_stands_alone(self, np_tour, 0, 1, 0, [5, 6])
        check_stands_alone(self, np_tour, 1, 1, 1, [5, 6])
        check_stands_alone(self, np_tour, 1, 1, 0, [1] * 18)

    def test_other_calls_between_make_no_difference(self):
        places = spread_places(6, 30, 3)
        before = tour(2, 3, 1, *places)
        tour(3, 2, 1, *places)
        tour(2, 3, 0, *places[::-1])
        tour(2, 3, 6, *places)
        self.assertEqual(tour(2, 3, 1, *places), before)

    def test_arguments_have_their_names(self):
        self.assertEqual(np_tour(va=1, vb=2, i=1, l=[0, 0, 4, 10]), answer([0], 5))

    def test_answer_is_a_list_of_plain_numbers(self):
        told = (tour(1, 1, 0, (0, 0), (1, 2)), np_tour(1, 1, 0, [5, 6]), np_tour(1, 1, 0, []), np_tour(0, 1, 0, []))
        for numbers in told:
            check_plain(self, numbers)


if __name__ == "__main__":
    unittest.main()
