"""What DOC.md says over the whole program: the calls there are, and that nothing is kept, printed or read."""

import ast
import builtins
import inspect
import pathlib
import unittest

import pipereach
from helper import GOOD_PIPE, check_answer
from pipereach import desk

PIPE = [5, -6, 7, -8, 9, -10, 17, 4, 1]
CALLS = {
    "sign": (["p", "q"], (3, -2), [0, 1]),
    "order": (["ap", "aq", "bp", "bq"], (7, 0, 0, 5), [0, -1]),
    "sum_of": (["ap", "aq", "bp", "bq"], (1, 2, 3, 4), [0, 4, 6]),
    "mm": (["p", "q", "way"], (0, 2000, 1), [0, 2]),
    "turn": (["d", "e"], (0, 6), [0, 45]),
    "go": (["xp", "xq", "yp", "yq", "zp", "zq", "the_dir", "n"], (0, 0, 0, 0, 0, 0, 6, 3), [0, 0, 3000, 0, 3000, 0, 0]),
    "text": (["p", "q", "places"], (0, -2000, 1), [0, 45, 49, 46, 52]),
    "how": (["one", "other"], (GOOD_PIPE, PIPE), [0, 0, 0, 1]),
    "clash": (["one", "other"], (GOOD_PIPE, PIPE), [0, 1]),
    "meet": (["one", "other"], (GOOD_PIPE, PIPE), [0, 10, -12, 14, -16, 18, -20]),
}


class Whole(unittest.TestCase):
    def test_every_call_with_its_arguments(self):
        for name, (parameters, arguments, wanted) in CALLS.items():
            call = getattr(desk, name)
            self.assertEqual(list(inspect.signature(call).parameters), parameters)
            check_answer(self, call, arguments, wanted)

    def test_nothing_is_kept_from_one_call_to_another(self):
        values = {name: repr(value) for name, value in vars(desk).items() if not name.startswith("__")}
        for first in CALLS:
            for second in CALLS:
                for name in (first, second, first):
                    answer = getattr(desk, name)(*CALLS[name][1])
                    self.assertEqual(answer, CALLS[name][2])
                    # What its owner does with an answer is nothing to the program.
                    answer.clear()
        self.assertEqual({name: repr(value) for name, value in vars(desk).items() if name in values}, values)
        self.assertEqual(set(values), {name for name in vars(desk) if not name.startswith("__")})

    def test_no_built_in_that_prints_or_reads(self):
        fit = {"abs", "all", "any", "len", "max", "min", "ord", "range", "str", "sum", "tuple", "list", "zip"}
        for path in sorted(pathlib.Path(pipereach.__file__).parent.rglob("*.py")):
            for node in ast.walk(ast.parse(path.read_text(encoding="utf-8"))):
                if isinstance(node, ast.Name) and hasattr(builtins, node.id):
                    self.assertIn(node.id, fit, path)


if __name__ == "__main__":
    unittest.main()
