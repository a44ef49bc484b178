"""All calls together: the interface as it stands, each refusal, and that each call stands alone."""

import contextlib
import inspect
import io
import itertools
import unittest
from unittest import mock

from helper import ALL, FASTEST, check_plain, check_stands_alone, words
from nightplan import plan

INTERFACE = {
    "np_up": ["t", "z", "l"],
    "np_starts": ["d", "l"],
    "np_facts": ["l"],
    "np_crowd": ["l"],
    "np_best": ["rows"],
    "np_tour": ["va", "vb", "i", "l"],
    "np_turns": ["va", "vb", "a", "b"],
    "np_fill": ["i", "l", "w"],
    "np_starts1": ["d", "m"],
}

ORDINARY = [
    ("np_up", [2 ** 64 - 4, words((1, 0, 0), (0, 1, 0), (0, 0, 1)), words((-4, -5, 3), (1, 1, -9))], [0, 5, 3]),
    ("np_starts", [2, [0b1110110, 0]], [0, 0b0110010, 0]),
    ("np_facts", [[0b1110110, 0]], [0, 5, 1, 6, 4, 3, 0, 64, 64, 0, 0]),
    ("np_crowd", [[0b101, 0b100]], [0, 1, 0, 2] + [0] * 61),
    ("np_best", [[0, 2, 5, 1, 4, 6, 2, 6, 3]], [2, 2, 0, 2, 1, 8]),
    ("np_tour", [2, 1, 1, words((0, 0), (-9, 0), (4, 0))], [2, 2, 0, 2, 1, 7]),
    ("np_turns", [2, 3, words((0, 0), (-1, -1)), words((-9, 1), (1, 9))], [0, 5, 4]),
    ("np_fill", [1, [0b1111, 0b11, ALL], [2, 4, 1, 4, 64, 9]], [2, 1, 1, 0, 2]),
    ("np_starts1", [2, 0b1110110], [3]),
]

NOTHING_HANDED_IN = [
    ("np_up", [0, [], []], [0]),
    ("np_starts", [64, []], [0]),
    ("np_facts", [[]], [0]),
    ("np_crowd", [[]], [0] + [0] * 64),
    ("np_best", [[]], [0, 0, 1, 0]),
    ("np_turns", [1, FASTEST, [], []], [0]),
    ("np_fill", [64, [], []], [0]),
    ("np_starts1", [0, 0], [64]),
]

REFUSED = [
    ("np_up", [0, [1] * 195, [1, 2, 3]], [-2]),
    ("np_up", [0, [1, 2, 3], [1] * 3075], [-2]),
    ("np_up", [0, [2 ** 24 + 1] * 195, [2 ** 24 + 1, 0, 0]], [-2]),
    ("np_up", [0, [2 ** 24 + 1, 0, 0], [1, 2, 3]], [-3]),
    ("np_up", [0, [1, 2, 3], words((0, 0, -2 ** 24 - 1))], [-3]),
    ("np_starts", [65, [1]], [-2]),
    ("np_starts", [65, []], [-2]),
    ("np_starts", [1, [1] * 1025], [-2]),
    ("np_facts", [[1] * 1025], [-2]),
    ("np_crowd", [[1] * 1025], [-2]),
    ("np_best", [[5, 5, 1] * 17], [-2]),
    ("np_best", [[5, 5, 1]], [-3]),
    ("np_best", [[0, 5, 1, 0, 4, 1]], [-3]),
    ("np_tour", [0, 1, 0, [1, 2]], [-2]),
    ("np_tour", [1, FASTEST + 1, 5, []], [-2]),
    ("np_tour", [1, 1, 9, [1] * 18], [-2]),
    ("np_tour", [1, 1, 1, [1, 2]], [-3]),
    ("np_tour", [1, 1, 0, []], [-3]),
    ("np_turns", [FASTEST + 1, 1, [1, 2], [3, 4]], [-2]),
    ("np_turns", [1, 0, [], []], [-2]),
    ("np_turns", [1, 1, [1] * 2050, [1] * 2050], [-2]),
    ("np_fill", [65, [ALL], [1, 1]], [-2]),
    ("np_fill", [65, [], []], [-2]),
    ("np_fill", [0, [ALL] * 257, [1, 1] * 257], [-2]),
]

EVERY = ORDINARY + NOTHING_HANDED_IN + REFUSED


def refuse(*arguments, **named):
    raise AssertionError("nothing is read, asked for or imported")


def answer_of(name, arguments):
    return getattr(plan, name)(*arguments)


class Interface(unittest.TestCase):
    def test_names_and_arguments(self):
        for name, arguments in INTERFACE.items():
            parameters = inspect.signature(getattr(plan, name)).parameters
            self.assertEqual(list(parameters), arguments)
            for parameter in parameters.values():
                self.assertIs(parameter.default, parameter.empty)

    def test_no_call_beside_those_of_the_document(self):
        self.assertEqual({name for name in vars(plan) if name.startswith("np_")}, set(INTERFACE))

    def test_every_call_is_tried(self):
        self.assertEqual([name for name, _, _ in ORDINARY], list(INTERFACE))


class Answers(unittest.TestCase):
    def test_each_answer(self):
        for name, arguments, answer in EVERY:
            with self.subTest(name=name, answer=answer):
                self.assertEqual(answer_of(name, arguments), answer)

    def test_form(self):
        for name, arguments, _ in EVERY:
            told = answer_of(name, arguments)
            check_plain(self, told)
            self.assertTrue(min(told) >= 0 or told in ([-2], [-3]), name)


class StandsAlone(unittest.TestCase):
    def test_nothing_handed_in_is_changed(self):
        for name, arguments, _ in EVERY:
            check_stands_alone(self, getattr(plan, name), *arguments)

    def test_any_call_between_makes_no_difference(self):
        for (name, arguments, answer), (other, others, _) in itertools.product(EVERY, repeat=2):
            answer_of(name, arguments)
            answer_of(other, others)
            self.assertEqual(answer_of(name, arguments), answer, (name, other))

    def test_an_answer_stays_as_it_was_told(self):
        told = [answer_of(name, arguments) for name, arguments, _ in EVERY]
        for name, arguments, _ in reversed(EVERY):
            answer_of(name, arguments).clear()
        self.assertEqual(told, [answer for _, _, answer in EVERY])

    def test_nothing_is_kept_in_the_file(self):
        before = {name: repr(value) for name, value in vars(plan).items()}
        for name, arguments, _ in EVERY:
            answer_of(name, arguments)
        self.assertEqual({name: repr(value) for name, value in vars(plan).items()}, before)

    def test_nothing_is_printed_read_or_imported(self):
        written = io.StringIO()
        with contextlib.redirect_stdout(written), contextlib.redirect_stderr(written):
            with mock.patch.multiple("builtins", open=refuse, input=refuse, __import__=refuse):
                told = [answer_of(name, arguments) for name, arguments, _ in EVERY]
        self.assertEqual(told, [answer for _, _, answer in EVERY])
        self.assertEqual(written.getvalue(), "")

    def test_the_file_imports_nothing(self):
        self.assertNotRegex(inspect.getsource(plan), r"(?m)^\s*(import|from)\b")


if __name__ == "__main__":
    unittest.main()
