"""Point 4: np_turns."""

import unittest

from helper import FASTEST, HIGH, LOW, check_plain, check_stands_alone, spread_places, turning, words
from nightplan.plan import np_tour, np_turns


def turns(va, vb, a, b):
    return np_turns(va, vb, words(*a), words(*b))


def expected(va, vb, a, b):
    return [0] + [turning(va, vb, one, other) for one, other in zip(a, b)]


class Turns(unittest.TestCase):
    def check_one(self, va, vb, one, other, taken):
        """Turning takes so long, there and back."""
        self.assertEqual(turns(va, vb, [one], [other]), [0, taken])
        self.assertEqual(turns(va, vb, [other], [one]), [0, taken])


class Ordinary(Turns):
    def test_each_with_the_place_that_stands_where_it_stands(self):
        self.assertEqual(turns(1, 1, [(0, 0), (5, 0), (9, 9)], [(1, 0), (7, 0), (6, 5)]), [0, 1, 2, 4])
        self.assertEqual(turns(1, 1, [(9, 9), (5, 0), (0, 0)], [(6, 5), (7, 0), (1, 0)]), [0, 4, 2, 1])
        self.assertEqual(turns(1, 1, [(0, 0), (5, 0), (9, 9)], [(7, 0), (6, 5), (1, 0)]), [0, 7, 5, 9])

    def test_the_first_words_decide(self):
        self.check_one(2, 3, (0, 0), (10, 12), 5)
        self.check_one(1, 1, (3, -4), (-6, 1), 9)

    def test_the_second_words_decide(self):
        self.check_one(2, 3, (0, 0), (10, 18), 6)
        self.check_one(1, 1, (3, -4), (5, 4), 8)

    def test_the_greater_of_both_and_not_their_sum(self):
        self.check_one(1, 1, (0, 0), (7, 7), 7)
        self.check_one(2, 4, (0, 0), (6, 12), 3)

    def test_only_one_word_is_apart(self):
        self.check_one(3, 5, (4, 8), (4, 18), 2)
        self.check_one(3, 5, (4, 8), (13, 8), 3)

    def test_a_place_to_itself(self):
        for place in ((0, 0), (7, -7), (LOW, HIGH), (HIGH, LOW)):
            for speed in (1, 3, FASTEST):
                self.assertEqual(turns(speed, speed, [place], [place]), [0, 0])

    def test_as_the_document_tells(self):
        for seed in range(60):
            va = 1 + seed % 7
            vb = 1 + seed * seed % 11
            for reach in (3, 40, 10 ** 6, HIGH):
                a = spread_places(12, reach, seed)
                b = spread_places(12, reach, seed + 1000)
                self.assertEqual(turns(va, vb, a, b), expected(va, vb, a, b))
                self.assertEqual(turns(va, vb, b, a), expected(va, vb, a, b))

    def test_a_tour_of_two_places_takes_as_long(self):
        for seed in range(20):
            one, other = spread_places(2, 50, seed)
            told = turns(3, 4, [one], [other])
            self.assertEqual(np_tour(3, 4, 0, words(one, other)), [1, 1, 1, 1, told[1]])


class RoundedUp(Turns):
    def test_what_is_left_over_takes_one_more(self):
        for far, by, taken in ((1, 2, 1), (3, 2, 2), (7, 3, 3), (8, 3, 3), (1, FASTEST, 1), (FASTEST + 1, FASTEST, 2)):
            self.check_one(by, 1, (0, 0), (far, 0), taken)
            self.check_one(1, by, (0, 0), (0, far), taken)

    def test_what_goes_up_evenly_takes_no_more(self):
        for far, by, taken in ((0, 2, 0), (2, 2, 1), (6, 3, 2), (9, 3, 3), (5, 1, 5), (FASTEST, FASTEST, 1)):
            self.check_one(by, 1, (0, 0), (far, 0), taken)
            self.check_one(1, by, (0, 0), (0, far), taken)

    def test_below_0_too(self):
        self.check_one(2, 1, (-3, 0), (0, 0), 2)
        self.check_one(2, 1, (-4, 0), (0, 0), 2)
        self.check_one(1, 3, (0, -7), (0, -3), 2)

    def test_rounding_decides_between_the_words(self):
        self.check_one(4, 5, (0, 0), (9, 10), 3)
        self.check_one(5, 4, (0, 0), (10, 9), 3)

    def test_each_speed_belongs_to_its_word(self):
        self.check_one(1, 100, (0, 0), (30, 30), 30)
        self.check_one(100, 1, (0, 0), (30, 31), 31)


class Signs(Turns):
    def test_words_below_0(self):
        self.assertEqual(np_turns(1, 1, [4294967295, 0], [1, 0]), [0, 2])
        self.assertEqual(np_turns(1, 1, [0, 4294967294], [0, 3]), [0, 5])
        self.check_one(1, 1, (-3, -4), (-8, -1), 5)

    def test_as_far_apart_as_words_can_be(self):
        self.check_one(1, 1, (LOW, 0), (HIGH, 0), 2 ** 32 - 1)
        self.check_one(1, 1, (0, LOW), (0, HIGH), 2 ** 32 - 1)
        self.check_one(2, 2, (LOW, LOW), (HIGH, HIGH), 2 ** 31)
        self.check_one(FASTEST, FASTEST, (LOW, HIGH), (HIGH, LOW), 4096)

    def test_halfway_round_is_not_nearer(self):
        self.check_one(1, 1, (2 ** 30, 0), (-2 ** 30 - 1, 0), 2 ** 31 + 1)


class Speeds(unittest.TestCase):
    def test_least_and_greatest(self):
        self.assertEqual(turns(1, FASTEST, [(0, 0)], [(5, 6)]), [0, 5])
        self.assertEqual(turns(FASTEST, 1, [(0, 0)], [(5, 6)]), [0, 6])
        self.assertEqual(turns(FASTEST, FASTEST, [(0, 0)], [(5, 6)]), [0, 1])

    def test_out_of_range(self):
        for speed in (0, FASTEST + 1, 2 ** 31, 2 ** 32 - 1, 2 ** 32, -1):
            for va, vb in ((speed, 1), (1, speed), (speed, speed), (FASTEST, speed), (speed, FASTEST)):
                self.assertEqual(turns(va, vb, [(0, 0)], [(1, 1)]), [-2])
                self.assertEqual(np_turns(va, vb, [], []), [-2])


class HowMany(unittest.TestCase):
    def test_no_place(self):
        self.assertEqual(np_turns(1, 1, [], []), [0])
        self.assertEqual(np_turns(FASTEST, FASTEST, [], []), [0])

    def test_one_place(self):
        self.assertEqual(np_turns(2, 1, [1, 2], [4, 2]), [0, 2])

    def test_1024_places(self):
        a = spread_places(1024, 10 ** 5, 1)
        b = spread_places(1024, 10 ** 5, 2)
        told = turns(7, 9, a, b)
        self.assertEqual(len(told), 1025)
        self.assertEqual(told, expected(7, 9, a, b))

    def test_more_than_1024_places(self):
        for count in (1025, 1026, 1027):
            self.assertEqual(turns(1, 1, [(1, 2)] * count, [(3, 4)] * count), [-2])
            self.assertEqual(turns(0, 1, [(1, 2)] * count, [(3, 4)] * count), [-2])

    def test_number_that_is_no_word(self):
        for number in (2 ** 32, -1):
            self.assertEqual(np_turns(1, 1, [0, 0, number, 0], [0, 0, 0, 0]), [-2])
            self.assertEqual(np_turns(1, 1, [0, 0, 0, 0], [0, 0, 0, number]), [-2])


class StandsAlone(unittest.TestCase):
    def test_nothing_is_changed_or_kept(self):
        check_stands_alone(self, np_turns, 1, 1, [], [])
        for count in (1, 2, 30):
            a = words(*spread_places(count, 99, count))
            b = words(*spread_places(count, 99, count + 100))
            check_stands_alone(self, np_turns, 3, 5, a, b)

    def test_nothing_is_changed_or_kept_at_a_refusal(self):
        check_stands_alone(self, np_turns, 0, 1, [1, 2], [3, 4])
        check_stands_alone(self, np_turns, 1, 1, [1] * 2050, [2] * 2050)

    def test_the_same_list_twice(self):
        places = words((1, 2), (-3, 4))
        self.assertEqual(np_turns(1, 1, places, places), [0, 0, 0])

    def test_other_calls_between_make_no_difference(self):
        a = words(*spread_places(9, 99, 1))
        b = words(*spread_places(9, 99, 2))
        before = np_turns(3, 5, a, b)
        np_turns(5, 3, b, a)
        np_turns(0, 3, a, b)
        self.assertEqual(np_turns(3, 5, a, b), before)

    def test_arguments_have_their_names(self):
        self.assertEqual(np_turns(va=1, vb=2, a=[0, 0], b=[4, 10]), [0, 5])

    def test_answer_is_a_list_of_plain_numbers(self):
        for told in (np_turns(1, 1, [0, 0], [1, 2]), np_turns(1, 1, [], []), np_turns(0, 1, [], [])):
            check_plain(self, told)


if __name__ == "__main__":
    unittest.main()
