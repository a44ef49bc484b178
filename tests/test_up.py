"""Point 1: np_up."""

import unittest

from helper import ALL, check_plain, check_stands_alone, next_state, words
from nightplan.plan import np_up

SIZE = 2 ** 24


def up(t, zeniths, ways):
    return np_up(t % 2 ** 64, words(*zeniths), words(*ways))


def expected(t, zeniths, ways):
    """The document's words, slot by slot."""
    masks = []
    for x, y, z in ways:
        slots = [i for i, (a, b, c) in enumerate(zeniths) if x * a + y * b + z * c >= t]
        masks.append(sum(2 ** i for i in slots))
    return [0] + masks


def spread_ways(count, seed):
    """Ways of many sizes and signs, the same each time."""
    numbers = []
    state = seed
    for _ in range(3 * count):
        state = next_state(state)
        reach = 2 ** (state // 2 ** 40 % 25)
        numbers.append(state // 2 ** 20 % (2 * reach + 1) - reach)
    return [tuple(numbers[i:i + 3]) for i in range(0, 3 * count, 3)]


class Ordinary(unittest.TestCase):
    def test_one_way_among_three_zeniths(self):
        zeniths = [(1, 0, 0), (0, 1, 0), (0, 0, 1)]
        self.assertEqual(up(5, zeniths, [(5, 4, 6)]), [0, 0b101])

    def test_each_word_counts_with_its_own(self):
        self.assertEqual(up(32, [(1, 2, 3), (3, 2, 1)], [(4, 5, 6)]), [0, 0b01])
        self.assertEqual(up(28, [(1, 2, 3), (3, 2, 1)], [(4, 5, 6)]), [0, 0b11])

    def test_masks_stand_in_the_order_of_the_ways(self):
        zeniths = [(1, 0, 0), (0, 1, 0)]
        ways = [(1, 0, 0), (0, 1, 0), (1, 1, 0), (0, 0, 1)]
        self.assertEqual(up(1, zeniths, ways), [0, 1, 2, 3, 0])

    def test_many_ways_as_the_document_tells(self):
        for seed in range(20):
            zeniths = spread_ways(seed * 3 + 4, seed)
            ways = spread_ways(30, seed + 100)
            for t in (-2 ** 30, -1000, -1, 0, 1, 1000, 2 ** 30):
                self.assertEqual(up(t, zeniths, ways), expected(t, zeniths, ways))


class Signs(unittest.TestCase):
    def test_words_below_0(self):
        self.assertEqual(up(6, [(-2, 0, 0), (2, 0, 0)], [(-3, 0, 0)]), [0, 0b01])
        self.assertEqual(up(-6, [(-2, 0, 0), (2, 0, 0)], [(-3, 0, 0)]), [0, 0b11])
        self.assertEqual(up(-5, [(-2, 0, 0), (2, 0, 0)], [(-3, 0, 0)]), [0, 0b01])

    def test_words_as_they_are_handed_in(self):
        self.assertEqual(np_up(1, [4294967295, 0, 0], [4294967295, 0, 0]), [0, 1])
        self.assertEqual(np_up(18446744073709551615, [4294967295, 0, 0], [1, 0, 0]), [0, 1])
        self.assertEqual(np_up(0, [4294967295, 0, 0], [1, 0, 0]), [0, 0])

    def test_each_of_three_words_has_its_sign(self):
        for place in range(3):
            way = [0, 0, 0]
            way[place] = -7
            self.assertEqual(up(49, [tuple(way)], [tuple(way)]), [0, 1])
            self.assertEqual(up(50, [tuple(way)], [tuple(way)]), [0, 0])

    def test_t_below_at_and_above_0(self):
        zeniths = [(1, 0, 0), (0, 1, 0), (-1, 0, 0)]
        self.assertEqual(up(-1, zeniths, [(1, 0, 0)]), [0, 0b111])
        self.assertEqual(up(0, zeniths, [(1, 0, 0)]), [0, 0b011])
        self.assertEqual(up(1, zeniths, [(1, 0, 0)]), [0, 0b001])

    def test_least_and_greatest_t(self):
        low = [(-SIZE, -SIZE, -SIZE), (SIZE, SIZE, SIZE)]
        self.assertEqual(np_up(2 ** 63, words(*low), words((SIZE, SIZE, SIZE))), [0, 0b11])
        self.assertEqual(np_up(2 ** 63 - 1, words(*low), words((SIZE, SIZE, SIZE))), [0, 0])

    def test_t_is_not_cut_to_fewer_bits(self):
        for t in (2 ** 32, 2 ** 31, 2 ** 53 + 1):
            self.assertEqual(up(t, [(1, 0, 0)], [(1, 0, 0)]), [0, 0])
            self.assertEqual(up(-t, [(1, 0, 0)], [(-1, 0, 0)]), [0, 1])


class JustAlong(unittest.TestCase):
    def check(self, zenith, way):
        just = sum(a * b for a, b in zip(zenith, way))
        self.assertEqual(up(just, [zenith], [way]), [0, 1])
        self.assertEqual(up(just - 1, [zenith], [way]), [0, 1])
        self.assertEqual(up(just + 1, [zenith], [way]), [0, 0])

    def test_small(self):
        self.check((3, -4, 5), (-6, 7, 8))
        self.check((3, 4, 5), (-6, -7, -8))
        self.check((0, 0, 0), (1, 2, 3))

    def test_greatest(self):
        self.check((SIZE, SIZE, SIZE), (SIZE, SIZE, SIZE))
        self.check((SIZE, SIZE, SIZE), (-SIZE, -SIZE, -SIZE))
        self.check((SIZE, SIZE - 1, -SIZE), (SIZE - 1, SIZE, SIZE))

    def test_one_less_at_and_one_more_beside_one_another(self):
        self.assertEqual(up(10, [(9, 0, 0), (10, 0, 0), (11, 0, 0)], [(1, 0, 0)]), [0, 0b110])


class HowMany(unittest.TestCase):
    def test_no_zenith(self):
        self.assertEqual(np_up(2 ** 63, [], words((1, 2, 3), (0, 0, 0))), [0, 0, 0])

    def test_no_way(self):
        self.assertEqual(np_up(0, words((1, 2, 3)), []), [0])
        self.assertEqual(np_up(0, [], []), [0])

    def test_one_zenith_has_none_behind_it(self):
        self.assertEqual(up(-2 ** 63, [(1, 0, 0)], [(1, 0, 0)]), [0, 1])

    def test_64_zeniths(self):
        self.assertEqual(up(0, [(0, 0, 0)] * 64, [(1, 0, 0)]), [0, ALL])
        self.assertEqual(up(1, [(0, 0, 0)] * 63 + [(1, 0, 0)], [(1, 0, 0)]), [0, 2 ** 63])
        self.assertEqual(up(0, [(0, 0, 0)] * 63, [(1, 0, 0)]), [0, 2 ** 63 - 1])

    def test_more_than_64_zeniths(self):
        self.assertEqual(up(0, [(0, 0, 0)] * 65, [(1, 0, 0)]), [-2])
        self.assertEqual(up(0, [(0, 0, 0)] * 66, []), [-2])

    def test_1024_ways(self):
        zeniths = spread_ways(64, 7)
        ways = spread_ways(1024, 8)
        self.assertEqual(up(99, zeniths, ways), expected(99, zeniths, ways))

    def test_more_than_1024_ways(self):
        self.assertEqual(up(0, [(1, 0, 0)], [(1, 0, 0)] * 1025), [-2])
        self.assertEqual(up(0, [], [(1, 0, 0)] * 1026), [-2])


class Refusals(unittest.TestCase):
    def test_size_of_just_2_to_the_24(self):
        for number in (SIZE, -SIZE):
            for place in range(3):
                way = [0, 0, 0]
                way[place] = number
                self.assertEqual(up(2 ** 48, [tuple(way)], [tuple(way)]), [0, 1])

    def test_size_above_2_to_the_24(self):
        plain = (1, 2, 3)
        for number in (SIZE + 1, -SIZE - 1, 2 ** 31 - 1, -2 ** 31):
            for place in range(3):
                way = [0, 0, 0]
                way[place] = number
                far = tuple(way)
                self.assertEqual(up(0, [far], [plain]), [-3])
                self.assertEqual(up(0, [plain], [far]), [-3])
                self.assertEqual(up(0, [far], [far]), [-3])

    def test_too_far_at_the_last_of_many(self):
        far = (0, 0, SIZE + 1)
        self.assertEqual(up(0, [(1, 0, 0)] * 63 + [far], [(1, 0, 0)]), [-3])
        self.assertEqual(up(0, [(1, 0, 0)], [(1, 0, 0)] * 1023 + [far]), [-3])

    def test_too_far_where_nothing_is_compared(self):
        far = (SIZE + 1, 0, 0)
        self.assertEqual(up(0, [far], []), [-3])
        self.assertEqual(up(0, [], [far]), [-3])

    def test_out_of_range_goes_ahead(self):
        plain = (1, 0, 0)
        far = (SIZE + 1, 0, 0)
        self.assertEqual(up(0, [far] * 65, [plain]), [-2])
        self.assertEqual(up(0, [plain] * 65, [far]), [-2])
        self.assertEqual(up(0, [far], [plain] * 1025), [-2])
        self.assertEqual(up(0, [plain], [far] * 1025), [-2])
        self.assertEqual(np_up(0, words(far), [2 ** 32, 0, 0]), [-2])

    def test_number_that_is_no_word(self):
        for number in (2 ** 32, -1):
            self.assertEqual(np_up(0, [0, 0, number], [1, 0, 0]), [-2])
            self.assertEqual(np_up(0, [1, 0, 0], [0, 0, number]), [-2])

    def test_t_of_more_than_64_bits(self):
        for t in (2 ** 64, -1):
            self.assertEqual(np_up(t, [1, 0, 0], [1, 0, 0]), [-2])
            self.assertEqual(np_up(t, [], []), [-2])


class StandsAlone(unittest.TestCase):
    def test_nothing_is_changed_or_kept(self):
        check_stands_alone(self, np_up, 2 ** 64 - 5, words(*spread_ways(9, 1)), words(*spread_ways(20, 2)))
        check_stands_alone(self, np_up, 0, words((1, 0, 0)), [])

    def test_nothing_is_changed_or_kept_at_a_refusal(self):
        check_stands_alone(self, np_up, 0, words((SIZE + 1, 0, 0)), words((-1, 0, 0)))
        check_stands_alone(self, np_up, 0, words(*[(-1, 0, 0)] * 65), words((-1, 0, 0)))

    def test_other_calls_between_make_no_difference(self):
        z = words(*spread_ways(9, 3))
        l = words(*spread_ways(20, 4))
        before = np_up(0, z, l)
        np_up(2 ** 63, l[:30], z)
        np_up(0, [2 ** 31, 0, 0], z)
        self.assertEqual(np_up(0, z, l), before)

    def test_arguments_have_their_names(self):
        self.assertEqual(np_up(t=1, z=[1, 0, 0, 0, 1, 0], l=[0, 1, 0]), [0, 2])

    def test_answer_is_a_list_of_plain_numbers(self):
        for answer in (up(0, [(1, 0, 0)], [(1, 0, 0)]), up(0, [(2 ** 30, 0, 0)], []), up(0, [(0, 0, 0)] * 65, [])):
            check_plain(self, answer)


if __name__ == "__main__":
    unittest.main()
