"""The package keeps to the small part of Python that can be told by looking at it."""

import ast
import builtins
import pathlib
import re
import unittest

PACKAGE = pathlib.Path(__file__).resolve().parent.parent / "pinscores"

# Narrower than the language: what the program has had no need of is left out, and it imports nothing.
ALLOWED_NODES = (
    ast.Module, ast.FunctionDef, ast.arguments, ast.arg, ast.Assign, ast.AugAssign, ast.If, ast.While, ast.For,
    ast.Return, ast.Break, ast.Continue, ast.Pass, ast.Expr,
    ast.Constant, ast.List, ast.Tuple, ast.Dict, ast.Name, ast.Subscript, ast.Slice, ast.Attribute,
    ast.Call, ast.keyword, ast.BinOp, ast.UnaryOp, ast.BoolOp, ast.Compare, ast.IfExp, ast.ListComp,
    ast.comprehension, ast.expr_context, ast.operator, ast.unaryop, ast.boolop, ast.cmpop,
)
ALLOWED_BUILTINS = """len range enumerate zip min max sum abs sorted reversed int str bool list tuple dict
    isinstance ord repr any all divmod""".split()
ALLOWED_METHODS = """append clear copy count endswith extend find get index insert items join keys pop
    remove reverse setdefault update values bit_length""".split()
WORDS_NOWHERE = re.compile(
    r"\b(type|typing|typing_extensions|enum|Enum|IntEnum|StrEnum|Flag|IntFlag|Generic|Protocol|ABC|ABCMeta"
    r"|namedtuple|NamedTuple|TypedDict|TYPE_CHECKING|abstractmethod)\b|dataclass|overload|contextmanager")
NAMES_NOWHERE = "register mro elements open input version_info with_traceback add_note".split()


def package_files():
    return sorted(path for path in PACKAGE.rglob("*") if path.is_file() and path.parent.name != "__pycache__")


def nodes():
    for path in package_files():
        for node in ast.walk(ast.parse(path.read_text(encoding="utf-8"))):
            yield f"{path.name}:{getattr(node, 'lineno', 0)}", node


def is_plain(node):
    if isinstance(node, (ast.List, ast.Tuple)):
        return all(is_plain(each) for each in node.elts)
    if isinstance(node, ast.Dict):
        return all(is_plain(each) for each in node.keys + node.values)
    return isinstance(node, (ast.Constant, ast.Name))


class LanguageTest(unittest.TestCase):
    def test_files(self):
        self.assertEqual([path.name for path in package_files()], ["__init__.py", "scores.py"])

    def test_signs_and_sizes(self):
        for path in package_files():
            text = path.read_bytes()
            self.assertTrue(all(sign == 10 or 32 <= sign <= 126 for sign in text), path)
            lines = text.decode("ascii").splitlines()
            self.assertLessEqual(len(lines), 400, path)
            self.assertLessEqual(max(len(line) for line in lines), 120, path)
        for where, node in nodes():
            if isinstance(node, ast.FunctionDef):
                self.assertLessEqual(node.end_lineno - node.lineno + 1, 40, where)

    def test_words(self):
        for path in package_files():
            self.assertIsNone(WORDS_NOWHERE.search(path.read_text(encoding="utf-8")), path)

    def test_top_of_a_file(self):
        for path in package_files():
            body = ast.parse(path.read_text(encoding="utf-8")).body
            self.assertIsInstance(body[0].value.value, str, path)
            bound = []
            for node in body[1:]:
                self.assertIsInstance(node, (ast.FunctionDef, ast.Assign), path)
                if isinstance(node, ast.FunctionDef):
                    bound.append(node.name)
                if isinstance(node, ast.Assign):
                    self.assertTrue(is_plain(node.value), ast.unparse(node))
                    bound.append(node.targets[0].id)
            self.assertEqual(len(bound), len(set(bound)), path)

    def test_statements_and_expressions(self):
        for where, node in nodes():
            self.assertIsInstance(node, ALLOWED_NODES, where)
            self.assertNotIsInstance(node, (ast.Div, ast.MatMult), where)
            if isinstance(node, ast.Constant):
                self.assertIn(type(node.value), (int, str, bool, type(None)), where)
            if isinstance(node, ast.Assign):
                self.assertEqual(len(node.targets), 1, where)
            if isinstance(node, (ast.For, ast.While)):
                self.assertEqual(node.orelse, [], where)
            if isinstance(node, ast.ListComp):
                self.assertEqual(len(node.generators), 1, where)
                self.assertLessEqual(len(node.generators[0].ifs), 1, where)
            if isinstance(node, ast.BinOp) and isinstance(node.op, ast.Pow):
                self.assertIn(getattr(node.right, "value", None), range(65), where)
            if isinstance(node, ast.FunctionDef):
                plain = node.args
                self.assertFalse(plain.vararg or plain.kwarg or plain.kwonlyargs or plain.posonlyargs, where)
                self.assertEqual(node.decorator_list, [], where)
                for each in ast.walk(node):
                    if isinstance(each, ast.Expr):
                        self.assertIsInstance(each.value, ast.Call, where)

    def test_names(self):
        for where, node in nodes():
            for name in (getattr(node, field, None) for field in ("id", "arg", "attr", "name")):
                if isinstance(name, str):
                    self.assertRegex(name, r"^[A-Za-z][A-Za-z0-9_]*$", where)
                    self.assertNotIn(name, NAMES_NOWHERE, where)
            if isinstance(node, ast.Name) and hasattr(builtins, node.id):
                self.assertIn(node.id, ALLOWED_BUILTINS, where)
                self.assertIsInstance(node.ctx, ast.Load, where)
            if isinstance(node, ast.arg):
                self.assertFalse(hasattr(builtins, node.arg), where)
            if isinstance(node, ast.Attribute):
                self.assertIn(node.attr, ALLOWED_METHODS, where)


if __name__ == "__main__":
    unittest.main()
