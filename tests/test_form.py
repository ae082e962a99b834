"""The form of the package's files, as far as it can be seen without running them, and the interface."""

import ast
import builtins
import contextlib
import inspect
import io
import pathlib
import re
import unittest

import otherend
from otherend import lines

FOLDER = pathlib.Path(otherend.__file__).parent

OF_A_LIST = (lines.ends, lines.rounds)
OF_A_POINT = (lines.other, lines.line, lines.kind, lines.round_of, lines.step)

OWN_NAMES = """len range enumerate zip min max sum abs sorted reversed int str bool list tuple dict set frozenset
isinstance ord repr any all divmod""".split()

# What the package uses of the language; a kind of node that is not here is looked at before it is added.
NODES = """Module Expr Constant Assign Name Load Store FunctionDef arguments arg Return If While For Compare
Eq NotEq Lt LtE Gt GtE In NotIn BinOp Add Sub Mult FloorDiv Mod UnaryOp USub Not BoolOp And Or IfExp Call
Attribute Subscript Slice List Tuple Dict ListComp comprehension Break Continue Pass""".split()

METHODS = """append clear copy count extend get index insert items keys pop remove reverse setdefault update
values bit_length""".split()

WORDS = """type typing typing_extensions enum Enum IntEnum StrEnum Flag IntFlag Generic Protocol ABC ABCMeta
namedtuple NamedTuple TypedDict TYPE_CHECKING abstractmethod""".split()


def sources():
    return {path.name: path.read_text(encoding="utf-8") for path in sorted(FOLDER.glob("*.py"))}


def nodes(text):
    return list(ast.walk(ast.parse(text)))


def every_sort_of_answer():
    # 0 -> 1 -> 2, 3 alone, 4 a round; then no such point, no list that fits, and no points.
    line_and_round = [2, 0, 3, 1, 0, 2, 0, 0, 5, 5]
    answers = [call(l) for call in OF_A_LIST for l in (line_and_round, [0], [])]
    for call in OF_A_POINT:
        answers += [call(v, line_and_round) for v in range(6)]
        answers += [call(0, [0]), call(0, [])]
    return answers


class Form(unittest.TestCase):
    def test_files(self):
        found = sorted(path.name for path in FOLDER.iterdir() if path.name != "__pycache__")
        self.assertEqual(found, ["__init__.py", "lines.py"])

    def test_signs_and_size(self):
        for name, text in sources().items():
            self.assertTrue(all(sign == "\n" or " " <= sign <= "~" for sign in text), name)
            self.assertLessEqual(len(text.splitlines()), 400, name)
            self.assertLessEqual(max(len(row) for row in text.splitlines()), 120, name)
            for node in nodes(text):
                if isinstance(node, ast.FunctionDef):
                    self.assertLessEqual(node.end_lineno - node.lineno + 1, 40, node.name)

    def test_words(self):
        for name, text in sources().items():
            self.assertEqual([word for word in re.findall(r"\w+", text) if word in WORDS], [], name)
            self.assertIsNone(re.search("dataclass|overload|contextmanager", text), name)

    def test_nodes(self):
        for name, text in sources().items():
            for node in nodes(text):
                self.assertIn(node.__class__.__name__, NODES, (name, getattr(node, "lineno", None)))
                if isinstance(node, ast.Attribute):
                    self.assertIn(node.attr, METHODS, (name, node.lineno))
                if isinstance(node, ast.FunctionDef):
                    self.assertEqual(node.decorator_list, [], node.name)

    def test_names(self):
        for name, text in sources().items():
            for node in nodes(text):
                if isinstance(node, ast.Name) and isinstance(node.ctx, ast.Load) and hasattr(builtins, node.id):
                    self.assertIn(node.id, OWN_NAMES, (name, node.lineno))
                bound = None
                if isinstance(node, ast.Name) and isinstance(node.ctx, ast.Store):
                    bound = node.id
                elif isinstance(node, ast.arg):
                    bound = node.arg
                elif isinstance(node, ast.FunctionDef):
                    bound = node.name
                if bound is not None:
                    self.assertFalse(bound.startswith("_") or hasattr(builtins, bound), (name, bound))

    def test_the_top_of_a_module_keeps_nothing(self):
        for name, text in sources().items():
            bound = []
            for statement in ast.parse(text).body[1:]:
                if isinstance(statement, ast.Assign):
                    self.assertIsInstance(ast.literal_eval(statement.value), (int, str, tuple), name)
                    bound.append(statement.targets[0].id)
                else:
                    self.assertIsInstance(statement, ast.FunctionDef, name)
                    bound.append(statement.name)
            self.assertEqual(len(bound), len(set(bound)), name)


class Interface(unittest.TestCase):
    def test_arguments(self):
        for call in OF_A_LIST:
            self.assertEqual(str(inspect.signature(call)), "(l)")
        for call in OF_A_POINT:
            self.assertEqual(str(inspect.signature(call)), "(v, l)")

    def test_kinds(self):
        for answer in every_sort_of_answer():
            self.assertIs(answer.__class__, list)
            for number in answer:
                self.assertIs(number.__class__, int)

    def test_nothing_is_printed(self):
        printed = io.StringIO()
        with contextlib.redirect_stdout(printed), contextlib.redirect_stderr(printed):
            every_sort_of_answer()
        self.assertEqual(printed.getvalue(), "")


if __name__ == "__main__":
    unittest.main()
