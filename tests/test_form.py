"""The form of the package's files: what of LANGUAGE.md a short look can see."""

import ast
import builtins
import os
import re
import unittest

PACKAGE = os.path.join(os.path.dirname(os.path.abspath(__file__)), os.pardir, "nightplan")

OWN_NAMES = (
    "len range enumerate zip min max sum abs sorted reversed int str bool list tuple dict set frozenset isinstance "
    "ord repr any all divmod Exception ValueError KeyError IndexError LookupError ZeroDivisionError ArithmeticError "
    "OverflowError RuntimeError NotImplementedError StopIteration"
).split()

BARRED_WORDS = (
    "type typing typing_extensions enum Enum IntEnum StrEnum Flag IntFlag Generic Protocol ABC ABCMeta namedtuple "
    "NamedTuple TypedDict TYPE_CHECKING abstractmethod"
).split()

BARRED_FORMS = (
    ast.With, ast.Match, ast.Delete, ast.Global, ast.Nonlocal, ast.Assert, ast.Yield, ast.YieldFrom, ast.Await,
    ast.AsyncFunctionDef, ast.AsyncFor, ast.AsyncWith, ast.Div, ast.SetComp, ast.DictComp, ast.GeneratorExp,
    ast.NamedExpr, ast.Starred, ast.Import,
)


def package_files():
    return sorted(name for name in os.listdir(PACKAGE) if name != "__pycache__")


def sources():
    for name in package_files():
        with open(os.path.join(PACKAGE, name), encoding="utf-8") as file:
            yield name, file.read()


def nodes_of(text):
    return ast.walk(ast.parse(text))


class Form(unittest.TestCase):
    def test_files(self):
        self.assertIn("__init__.py", package_files())
        for name in package_files():
            self.assertRegex(name, r"\A[a-z0-9_]+\.py\Z")

    def test_signs_and_sizes(self):
        for name, text in sources():
            self.assertRegex(text, r"\A[ -~\n]*\Z", name)
            lines = text.split("\n")
            self.assertLessEqual(len(lines), 400, name)
            self.assertLessEqual(max(len(line) for line in lines), 120, name)
            for node in nodes_of(text):
                if isinstance(node, ast.FunctionDef):
                    self.assertLessEqual(node.end_lineno - node.lineno + 1, 40, node.name)

    def test_barred_words(self):
        for name, text in sources():
            self.assertEqual(set(re.findall(r"\w+", text)) & set(BARRED_WORDS), set(), name)

    def test_barred_forms(self):
        for name, text in sources():
            for node in nodes_of(text):
                self.assertNotIsInstance(node, BARRED_FORMS, name)
                if isinstance(node, ast.Constant):
                    self.assertNotIsInstance(node.value, (float, complex, bytes), name)
                if isinstance(node, ast.ImportFrom):
                    self.assertRegex(node.module, r"\Anightplan\.", name)

    def test_top_of_a_file(self):
        for name, text in sources():
            bound = []
            for node in ast.parse(text).body[1:]:
                self.assertIsInstance(node, (ast.ImportFrom, ast.FunctionDef, ast.ClassDef, ast.Assign), name)
                if isinstance(node, ast.Assign):
                    ast.literal_eval(node.value)
                    bound.append(node.targets[0].id)
                elif not isinstance(node, ast.ImportFrom):
                    bound.append(node.name)
            self.assertEqual(len(bound), len(set(bound)), name)

    def test_names(self):
        for name, text in sources():
            for node in nodes_of(text):
                if isinstance(node, ast.arg):
                    self.check_bound(node.arg)
                elif isinstance(node, ast.Name) and isinstance(node.ctx, ast.Store):
                    self.check_bound(node.id)
                elif isinstance(node, ast.Name) and hasattr(builtins, node.id):
                    self.assertIn(node.id, OWN_NAMES, name)

    def check_bound(self, name):
        self.assertFalse(name.startswith("_"), name)
        self.assertFalse(hasattr(builtins, name), name)


if __name__ == "__main__":
    unittest.main()
