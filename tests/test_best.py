"""Point 3: np_best."""

import itertools
import unittest

from helper import check_plain, check_stands_alone, next_state
from nightplan.plan import np_best

TOP = 2 ** 32 - 1


def best(*jobs):
    return np_best([number for job in jobs for number in job])


def answer(chosen, worth):
    """The form of an answer: how many, how many again, these, 1, the worth."""
    return [len(chosen), len(chosen)] + chosen + [1, worth]


def overlap(jobs):
    return any(one[0] < other[1] and other[0] < one[1] for one, other in itertools.combinations(jobs, 2))


def best_by_all_choices(jobs):
    """The most that jobs which don't overlap are worth together."""
    choices = itertools.product((False, True), repeat=len(jobs))
    sets = [list(itertools.compress(jobs, choice)) for choice in choices]
    return max(sum(job[2] for job in chosen) for chosen in sets if not overlap(chosen))


def chosen_by_words(jobs):
    """The choice as the document's words tell it, every best found by trying all choices."""
    chosen = []
    time = max([job[1] for job in jobs], default=0)
    for number in reversed(range(len(jobs))):
        begin, end, worth = jobs[number]
        ahead = jobs[:number]
        with_it = worth + best_by_all_choices([job for job in ahead if job[1] <= begin])
        if end <= time and with_it > best_by_all_choices([job for job in ahead if job[1] <= time]):
            chosen.insert(0, number)
            time = begin
    return chosen


def spread_jobs(count, reach, most, seed):
    """Jobs that stand by their ends, up to a slot and a worth, the same each time."""
    jobs = []
    state = seed
    for _ in range(count):
        drawn = []
        for _ in range(3):
            state = next_state(state)
            drawn.append(state // 2 ** 33)
        begin = drawn[0] % reach
        jobs.append((begin, begin + 1 + drawn[1] % (reach - begin), drawn[2] % (most + 1)))
    return sorted(jobs, key=lambda job: job[1])


class Ordinary(unittest.TestCase):
    def test_none_overlap(self):
        self.assertEqual(best((0, 2, 5), (3, 4, 1), (6, 9, 7)), answer([0, 1, 2], 13))

    def test_all_overlap(self):
        self.assertEqual(best((0, 5, 3), (1, 6, 9), (4, 7, 4)), answer([1], 9))
        self.assertEqual(best((0, 5, 9), (1, 6, 3), (4, 7, 4)), answer([0], 9))
        self.assertEqual(best((0, 5, 3), (1, 6, 4), (4, 7, 9)), answer([2], 9))

    def test_one_may_begin_when_another_ends(self):
        self.assertEqual(best((0, 2, 1), (2, 4, 1), (4, 5, 1)), answer([0, 1, 2], 3))
        self.assertEqual(best((0, 3, 1), (2, 4, 1), (4, 5, 1)), answer([0, 2], 2))

    def test_one_begins_just_ahead_of_the_others_end(self):
        self.assertEqual(best((0, 5, 2), (4, 8, 3)), answer([1], 3))
        self.assertEqual(best((0, 5, 2), (5, 8, 3)), answer([0, 1], 5))

    def test_a_long_one_against_several_short_ones(self):
        short = [(0, 2, 3), (2, 4, 3), (4, 6, 3)]
        self.assertEqual(best(*short, (0, 6, 8)), answer([0, 1, 2], 9))
        self.assertEqual(best(*short, (0, 6, 10)), answer([3], 10))
        self.assertEqual(best((0, 2, 3), (1, 5, 9), (4, 6, 3), (5, 8, 1)), answer([1, 3], 10))

    def test_a_long_one_among_jobs_that_come_later(self):
        self.assertEqual(best((0, 3, 2), (1, 10, 20), (9, 12, 5), (11, 13, 6)), answer([1, 3], 26))

    def test_numbers_of_the_chosen_rise(self):
        for seed in range(30):
            told = best(*spread_jobs(16, 200, 50, seed))
            chosen = told[2:2 + told[0]]
            self.assertEqual(chosen, sorted(set(chosen)))


class AsGood(unittest.TestCase):
    def test_jobs_that_end_at_the_same_slot(self):
        self.assertEqual(best((0, 4, 2), (1, 4, 3), (2, 4, 1)), answer([1], 3))
        self.assertEqual(best((3, 4, 2), (0, 4, 3), (4, 9, 1)), answer([1, 2], 4))
        self.assertEqual(best((3, 4, 2), (0, 4, 2)), answer([0], 2))

    def test_the_same_job_twice(self):
        self.assertEqual(best((0, 2, 5), (0, 2, 5)), answer([0], 5))
        self.assertEqual(best((0, 2, 5), (0, 2, 5), (2, 3, 1), (2, 3, 1)), answer([0, 2], 6))

    def test_a_later_one_only_if_worth_more(self):
        self.assertEqual(best((0, 3, 4), (2, 5, 4)), answer([0], 4))
        self.assertEqual(best((0, 3, 4), (2, 5, 5)), answer([1], 5))
        self.assertEqual(best((0, 2, 3), (2, 4, 3), (0, 4, 6)), answer([0, 1], 6))
        self.assertEqual(best((0, 2, 3), (2, 4, 3), (0, 4, 7)), answer([2], 7))

    def test_as_good_ahead_of_one_that_is_chosen(self):
        self.assertEqual(best((0, 3, 4), (2, 5, 4), (5, 7, 1)), answer([0, 2], 5))
        self.assertEqual(best((0, 4, 6), (1, 4, 6), (0, 5, 6), (5, 6, 1), (4, 6, 1)), answer([0, 3], 7))

    def test_a_worth_of_0_is_not_chosen(self):
        self.assertEqual(best((0, 1, 0)), answer([], 0))
        self.assertEqual(best((0, 1, 0), (1, 2, 5), (2, 3, 0)), answer([1], 5))
        self.assertEqual(best((0, 1, 0), (1, 2, 0), (2, 3, 0)), answer([], 0))


class AgainstAllChoices(unittest.TestCase):
    def check(self, jobs):
        told = best(*jobs)
        chosen = told[2:2 + told[0]]
        self.assertEqual(told, answer(chosen, best_by_all_choices(jobs)))
        self.assertEqual(told[-1], sum(jobs[number][2] for number in chosen))
        self.assertFalse(overlap([jobs[number] for number in chosen]))
        self.assertEqual(chosen, chosen_by_words(jobs))

    def test_every_set_of_few_small_jobs(self):
        times = [(begin, end) for end in range(1, 4) for begin in range(end)]
        for count in range(4):
            for kept in itertools.combinations_with_replacement(times, count):
                for worths in itertools.product(range(3), repeat=count):
                    self.check([(*time, worth) for time, worth in zip(kept, worths)])

    def test_many_sets_of_jobs(self):
        for count in range(9):
            for seed in range(12):
                self.check(spread_jobs(count, 6 + seed, 1 + seed % 4, 100 * count + seed))

    def test_sets_with_great_numbers(self):
        for seed in range(12):
            self.check(spread_jobs(7, TOP, TOP, seed))


class GreatNumbers(unittest.TestCase):
    def test_greatest_times_and_worth(self):
        self.assertEqual(best((0, TOP, TOP)), answer([0], TOP))
        self.assertEqual(best((TOP - 1, TOP, TOP)), answer([0], TOP))
        self.assertEqual(best((0, TOP - 1, TOP), (TOP - 1, TOP, TOP)), answer([0, 1], 2 * TOP))

    def test_times_are_without_a_sign(self):
        self.assertEqual(best((5, 2 ** 31 - 1, 1), (2 ** 31 - 1, 2 ** 31, 1), (2 ** 31, TOP, 1)), answer([0, 1, 2], 3))

    def test_worth_is_without_a_sign(self):
        self.assertEqual(best((0, 2, 1), (0, 3, 2 ** 31)), answer([1], 2 ** 31))

    def test_worth_together_above_2_to_the_32(self):
        jobs = [(number, number + 1, TOP) for number in range(16)]
        self.assertEqual(best(*jobs), answer(list(range(16)), 16 * TOP))

    def test_worths_are_not_cut_where_they_are_compared(self):
        self.assertEqual(best((0, 1, TOP), (1, 2, TOP), (0, 2, TOP)), answer([0, 1], 2 * TOP))
        self.assertEqual(best((0, 1, 2 ** 31), (1, 2, 2 ** 31), (0, 2, 1)), answer([0, 1], 2 ** 32))


class HowMany(unittest.TestCase):
    def test_no_job(self):
        self.assertEqual(np_best([]), [0, 0, 1, 0])

    def test_one_job(self):
        self.assertEqual(np_best([3, 7, 11]), [1, 1, 0, 1, 11])

    def test_two_jobs(self):
        self.assertEqual(np_best([3, 7, 11, 8, 9, 2]), [2, 2, 0, 1, 1, 13])

    def test_16_jobs(self):
        jobs = [(number, number + 2, number % 3 + 1) for number in range(16)]
        told = best(*jobs)
        self.assertEqual(told, answer(chosen_by_words(jobs), best_by_all_choices(jobs)))

    def test_more_than_16_jobs(self):
        for count in (17, 18):
            self.assertEqual(best(*[(number, number + 1, 1) for number in range(count)]), [-2])


class Refusals(unittest.TestCase):
    def test_a_job_that_ends_at_its_beginning_or_ahead_of_it(self):
        for bad in ((5, 5, 1), (5, 4, 1), (0, 0, 1), (TOP, 0, 1), (TOP, TOP, 0)):
            self.assertEqual(best(bad), [-3])
        self.assertEqual(best((0, 1, 1), (3, 3, 1), (4, 5, 1)), [-3])
        self.assertEqual(best((0, 1, 1), (4, 3, 1), (4, 5, 1)), [-3])
        self.assertEqual(best(*[(number, number + 1, 1) for number in range(15)], (16, 16, 1)), [-3])

    def test_jobs_that_do_not_stand_by_their_ends(self):
        self.assertEqual(best((0, 5, 1), (0, 4, 1)), [-3])
        self.assertEqual(best((3, 5, 1), (0, 2, 1)), [-3])
        self.assertEqual(best((0, 2, 1), (2, 9, 1), (3, 8, 1)), [-3])
        self.assertEqual(best((0, 7, 1), (0, 5, 1), (0, 9, 1)), [-3])
        self.assertEqual(best(*[(0, number + 2, 1) for number in range(15)], (0, 15, 1)), [-3])

    def test_jobs_may_begin_in_any_order(self):
        self.assertEqual(best((3, 4, 1), (0, 5, 1), (2, 5, 1)), answer([0], 1))

    def test_both_at_once(self):
        self.assertEqual(best((0, 5, 1), (4, 4, 1)), [-3])
        self.assertEqual(best((5, 5, 1), (0, 4, 1)), [-3])

    def test_a_worth_of_0_makes_no_difference(self):
        self.assertEqual(best((5, 5, 0)), [-3])
        self.assertEqual(best((0, 5, 0), (0, 4, 0)), [-3])

    def test_number_out_of_range(self):
        for number in (2 ** 32, -1):
            self.assertEqual(best((0, 1, number)), [-2])
        self.assertEqual(best((0, 2 ** 32, 1)), [-2])
        self.assertEqual(best((-1, 1, 1)), [-2])

    def test_out_of_range_goes_ahead(self):
        self.assertEqual(best(*[(5, 5, 1)] * 17), [-2])
        self.assertEqual(best(*[(0, 20 - number, 1) for number in range(17)]), [-2])
        self.assertEqual(best((5, 5, 1), (6, 7, 2 ** 32)), [-2])
        self.assertEqual(best((0, 5, 1), (0, 4, -1)), [-2])


class StandsAlone(unittest.TestCase):
    def test_nothing_is_changed_or_kept(self):
        check_stands_alone(self, np_best, [])
        for seed in range(5):
            jobs = spread_jobs(16, 40, 9, seed)
            check_stands_alone(self, np_best, [number for job in jobs for number in job])

    def test_nothing_is_changed_or_kept_at_a_refusal(self):
        check_stands_alone(self, np_best, [0, 1, 1] * 17)
        check_stands_alone(self, np_best, [0, 5, 1, 0, 4, 1])

    def test_other_calls_between_make_no_difference(self):
        jobs = spread_jobs(10, 30, 9, 3)
        before = best(*jobs)
        best((0, 9, 9), (0, 10, 10))
        best((1, 1, 1))
        self.assertEqual(best(*jobs), before)

    def test_argument_has_its_name(self):
        self.assertEqual(np_best(rows=[0, 1, 4]), [1, 1, 0, 1, 4])

    def test_answer_is_a_list_of_plain_numbers(self):
        for told in (best((0, 1, 4), (1, 2, 3)), np_best([]), best((1, 1, 1)), best(*[(0, 1, 1)] * 17)):
            check_plain(self, told)


if __name__ == "__main__":
    unittest.main()
