"""The package keeps to its small part of Python: what of that can be seen in the source alone."""

import ast
import builtins
import inspect
import pathlib
import re
import unittest

from damagesums import check

PACKAGE = pathlib.Path(__file__).resolve().parent.parent / "damagesums"
INTERFACE = {
    "begin": ["k"],
    "add": ["k", "s", "text"],
    "sum_of": ["k", "s"],
    "of": ["k", "text"],
    "joined": ["k", "a", "b", "n"],
    "zeros": ["k", "s", "n"],
    "changed": ["k", "s", "n", "old", "new"],
    "put": ["k", "at", "text"],
    "right": ["k", "at", "text"],
    "filled": ["k", "s", "want"],
    "pieces": ["k", "texts"],
    "copied": ["k", "s", "start", "n", "text"],
    "found": ["k", "given", "should", "n"],
    "table": ["k", "i"],
}
OWN_NAMES = set(
    "len range enumerate zip min max sum abs sorted reversed int str bool list tuple dict set frozenset isinstance "
    "ord repr any all divmod".split()
)
STRANGE_NAMES = set(dir(builtins)) - OWN_NAMES
WORDS_LEFT_OUT = re.compile(
    r"\b(type|typing|typing_extensions|enum|Enum|IntEnum|StrEnum|Flag|IntFlag|Generic|Protocol|ABC|ABCMeta|namedtuple"
    r"|NamedTuple|TypedDict|TYPE_CHECKING|abstractmethod)\b|dataclass|overload|contextmanager"
)
NODES_LEFT_OUT = (
    ast.Import, ast.With, ast.Delete, ast.Global, ast.Nonlocal, ast.Assert, ast.Yield, ast.YieldFrom, ast.Await,
    ast.AsyncFunctionDef, ast.AsyncFor, ast.AsyncWith, ast.SetComp, ast.DictComp, ast.GeneratorExp, ast.NamedExpr,
    ast.Starred, ast.Div, ast.Match,
)
WALKED_AT_ONCE = ("zip", "enumerate", "reversed", "range")
WALKERS = ("list", "tuple", "dict", "sorted", "sum", "any", "all", "enumerate", "zip", "min", "max")


def sources():
    for path in sorted(PACKAGE.rglob("*.py")):
        yield path, path.read_text(encoding="utf-8")


def called(node):
    return getattr(getattr(node, "func", None), "id", None)


def walked(tree):
    """What the source walks on the spot."""
    for node in ast.walk(tree):
        if isinstance(node, (ast.For, ast.comprehension)):
            yield node.iter
        if called(node) in WALKERS and node.args:
            yield node.args[0]


class FormTest(unittest.TestCase):
    def test_nothing_but_plain_files(self):
        for path in PACKAGE.rglob("*"):
            if "__pycache__" not in path.parts:
                self.assertRegex(path.name, r"^(__init__|[a-z][a-z0-9_]*)\.py$")

    def test_signs_and_sizes(self):
        for path, source in sources():
            lines = source.split("\n")
            self.assertLessEqual(len(lines), 399, path)
            for number, line in enumerate(lines, start=1):
                with self.subTest(file=path.name, line=number):
                    self.assertRegex(line, r"^[ -~]{0,120}\Z")
                    self.assertIsNone(WORDS_LEFT_OUT.search(line))

    def test_functions_are_short_and_plain(self):
        for path, source in sources():
            for node in ast.walk(ast.parse(source)):
                if isinstance(node, ast.FunctionDef):
                    with self.subTest(file=path.name, function=node.name):
                        self.assertLessEqual(node.end_lineno - node.lineno + 1, 40)
                        self.assertEqual(node.decorator_list, [])
                        self.assertIsNone(node.args.vararg)
                        self.assertIsNone(node.args.kwarg)
                        self.assertEqual(node.args.kwonlyargs + node.args.posonlyargs, [])

    def test_statements_and_names(self):
        for path, source in sources():
            for node in ast.walk(ast.parse(source)):
                with self.subTest(file=path.name, line=getattr(node, "lineno", None), node=type(node).__name__):
                    self.assertNotIsInstance(node, NODES_LEFT_OUT)
                    if isinstance(node, ast.ImportFrom):
                        self.assertRegex(node.module, r"^damagesums\.[a-z]")
                    if isinstance(node, ast.Name):
                        self.assertRegex(node.id, r"^[A-Za-z][A-Za-z0-9_]*$")
                        self.assertNotIn(node.id, STRANGE_NAMES)
                    if isinstance(node, ast.Name) and isinstance(node.ctx, ast.Store):
                        self.assertNotIn(node.id, OWN_NAMES)
                    if isinstance(node, ast.arg):
                        self.assertNotIn(node.arg, OWN_NAMES | STRANGE_NAMES)
                    if isinstance(node, ast.FunctionDef):
                        self.assertNotIn(node.name, OWN_NAMES | STRANGE_NAMES)
                    if isinstance(node, ast.Constant):
                        self.assertIn(type(node.value), (int, str, bool, type(None)))

    def test_is_beside_none_true_and_false_alone(self):
        for path, source in sources():
            for node in ast.walk(ast.parse(source)):
                if isinstance(node, ast.Compare) and any(isinstance(op, (ast.Is, ast.IsNot)) for op in node.ops):
                    with self.subTest(file=path.name, line=node.lineno):
                        self.assertEqual(len(node.ops), 1)
                        self.assertIsInstance(node.comparators[0], ast.Constant)
                        self.assertIn(repr(node.comparators[0].value), ("None", "True", "False"))

    def test_walked_at_once(self):
        for path, source in sources():
            tree = ast.parse(source)
            on_the_spot = list(walked(tree))
            for node in ast.walk(tree):
                if called(node) in WALKED_AT_ONCE:
                    with self.subTest(file=path.name, line=node.lineno):
                        self.assertIn(node, on_the_spot)

    def test_nothing_but_values_at_the_top(self):
        plain = (ast.Expr, ast.ImportFrom, ast.FunctionDef, ast.ClassDef, ast.Assign)
        for path, source in sources():
            bound = []
            for node in ast.parse(source).body:
                with self.subTest(file=path.name, line=node.lineno):
                    self.assertIsInstance(node, plain)
                    if isinstance(node, ast.Expr):
                        self.assertIsInstance(node.value, ast.Constant)
                    if isinstance(node, ast.Assign):
                        ast.literal_eval(node.value)
                        bound.append(node.targets[0].id)
                    if isinstance(node, (ast.FunctionDef, ast.ClassDef)):
                        bound.append(node.name)
            self.assertEqual(len(bound), len(set(bound)), path)


class InterfaceTest(unittest.TestCase):
    def test_names_and_arguments(self):
        for name, arguments in INTERFACE.items():
            with self.subTest(name=name):
                function = getattr(check, name)
                self.assertEqual(function.__module__, "damagesums.check")
                parameters = inspect.signature(function).parameters
                self.assertEqual(list(parameters), arguments)
                for parameter in parameters.values():
                    self.assertIs(parameter.default, inspect.Parameter.empty)

    def test_no_other_file_has_such_a_name(self):
        for path, source in sources():
            if path.name != "check.py":
                for node in ast.parse(source).body:
                    self.assertNotIn(getattr(node, "name", None), INTERFACE)


if __name__ == "__main__":
    unittest.main()
