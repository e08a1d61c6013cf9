"""sign and order: point 1 of "The calls", promise A1, and their rows of "The interface"."""

import ast
import contextlib
import inspect
import io
import pathlib
import unittest

from helper import HIGH, LOW, near_pairs, sign_by_decimals
from pipereach import desk

PACKAGE = pathlib.Path(desk.__file__).parent
EDGES = (LOW, LOW + 1, -2, -1, 0, 1, 2, HIGH - 1, HIGH)


class NearPairs(unittest.TestCase):
    """The pairs that the tests below stand on."""

    def test_they_differ_by_1_or_2_both_ways(self):
        gaps = {}
        for p, q, s in near_pairs(HIGH):
            gap = p * p - 2 * q * q
            self.assertIn(gap, (1, 2) if s == 1 else (-1, -2))
            gaps.setdefault(gap, []).append(p)
        self.assertEqual(sorted(gaps), [-2, -1, 1, 2])
        for sizes in gaps.values():
            self.assertLess(min(sizes), 10)
            self.assertGreater(max(sizes), HIGH // 8)

    def test_some_lie_outside_the_range(self):
        wide = [p for p, q, s in near_pairs(HIGH - LOW) if p > HIGH]
        self.assertTrue(wide)


class Sign(unittest.TestCase):
    def check(self, p, q, wanted):
        self.assertEqual(desk.sign(p, q), [0, wanted], (p, q))

    def test_zero(self):
        self.check(0, 0, 0)

    def test_one_of_them_zero(self):
        for size in (1, 2, 7, 2000, HIGH):
            self.check(size, 0, 1)
            self.check(-size, 0, -1)
            self.check(0, size, 1)
            self.check(0, -size, -1)
        self.check(LOW, 0, -1)
        self.check(0, LOW, -1)

    def test_of_one_sign(self):
        for p in (1, 2, 5, 2000, HIGH):
            for q in (1, 3, 1000, HIGH):
                self.check(p, q, 1)
                self.check(-p, -q, -1)
        self.check(LOW, LOW, -1)

    def test_of_opposite_signs(self):
        self.check(1, -1, -1)
        self.check(-1, 1, 1)
        self.check(2, -1, 1)
        self.check(-2, 1, -1)
        self.check(3, -2, 1)
        self.check(-3, 2, -1)
        self.check(4, -3, -1)
        self.check(-4, 3, 1)
        self.check(2000, -1000, 1)
        self.check(-2000, 1000, -1)

    def test_ends_of_the_range(self):
        self.check(HIGH, HIGH, 1)
        self.check(LOW, LOW, -1)
        self.check(HIGH, LOW, -1)
        self.check(LOW, HIGH, 1)
        self.check(HIGH, -1, 1)
        self.check(LOW, 1, -1)
        self.check(1, LOW, -1)
        self.check(-1, HIGH, 1)
        for p in EDGES:
            for q in EDGES:
                self.check(p, q, sign_by_decimals(p, q))

    def test_nearest_to_zero_with_an_end_of_the_range(self):
        # 2^63 less 1, over r, lies between 6521908912666391105 and ..106; 2^63 over r between ..106 and ..107.
        self.check(HIGH, -6521908912666391105, 1)
        self.check(HIGH, -6521908912666391106, -1)
        self.check(LOW, 6521908912666391106, -1)
        self.check(LOW, 6521908912666391107, 1)

    def test_very_near_to_zero(self):
        for p, q, s in near_pairs(HIGH):
            self.check(p, -q, s)
            self.check(-p, q, -s)

    def test_one_step_beside_very_near(self):
        for p, q, s in near_pairs(HIGH - 1):
            self.check(p + 1, -q, 1)
            self.check(p - 1, -q, -1)
            self.check(-p - 1, q, -1)
            self.check(-p + 1, q, 1)

    def test_all_small_ones(self):
        for p in range(-40, 41):
            for q in range(-40, 41):
                self.check(p, q, sign_by_decimals(p, q))


class Order(unittest.TestCase):
    def check(self, a, b, wanted):
        self.assertEqual(desk.order(a[0], a[1], b[0], b[1]), [0, wanted], (a, b))
        self.assertEqual(desk.order(b[0], b[1], a[0], a[1]), [0, -wanted], (b, a))

    def test_below_same_above(self):
        self.check((1, 0), (2, 0), -1)
        self.check((2, 0), (1, 0), 1)
        self.check((0, 1), (0, 2), -1)
        self.check((0, 1), (1, 0), 1)
        self.check((0, 1), (2, 0), -1)
        self.check((-1, 0), (0, -1), 1)
        self.check((5, -3), (4, -2), -1)
        self.check((10, 1), (1, 10), -1)

    def test_the_same(self):
        for p in EDGES:
            for q in EDGES:
                self.check((p, q), (p, q), 0)

    def test_ends_of_the_range(self):
        self.check((LOW, 0), (HIGH, 0), -1)
        self.check((0, LOW), (0, HIGH), -1)
        self.check((LOW, LOW), (HIGH, HIGH), -1)
        self.check((LOW, HIGH), (HIGH, LOW), 1)
        self.check((LOW, HIGH), (HIGH, HIGH), -1)
        self.check((HIGH, HIGH), (HIGH, LOW), 1)

    def test_every_two_of_the_edges(self):
        lengths = [(p, q) for p in EDGES for q in EDGES]
        for a in lengths:
            for b in lengths:
                self.check(a, b, sign_by_decimals(a[0] - b[0], a[1] - b[1]))

    def test_very_near_to_one_another(self):
        for p, q, s in near_pairs(HIGH):
            self.check((p, 0), (0, q), s)
            self.check((0, -q), (-p, 0), s)
            self.check((HIGH, LOW), (HIGH - p, LOW + q), s)
            self.check((LOW + p, HIGH - q), (LOW, HIGH), s)

    def test_very_near_though_a_less_b_is_outside_the_range(self):
        for p, q, s in near_pairs(HIGH - LOW):
            if p > HIGH:
                self.check((HIGH, LOW), (HIGH - p, LOW + q), s)
                self.check((LOW, HIGH), (LOW + p, HIGH - q), -s)

    def test_against_zero_it_is_the_sign(self):
        for p, q, s in near_pairs(HIGH):
            self.check((p, -q), (0, 0), s)


class Both(unittest.TestCase):
    def check_form(self, answer):
        self.assertIs(type(answer), list)
        self.assertEqual([type(number) for number in answer], [int, int])
        self.assertEqual(answer[0], 0)
        self.assertIn(answer[1], (-1, 0, 1))

    def test_a_list_of_two_whole_numbers(self):
        for p in EDGES:
            for q in EDGES:
                self.check_form(desk.sign(p, q))
                self.check_form(desk.order(p, q, q, p))
                self.check_form(desk.order(p, q, p, q))

    def test_the_same_call_twice(self):
        for p, q, s in near_pairs(HIGH):
            first = desk.sign(p, -q)
            desk.sign(-p, q)
            self.assertEqual(desk.sign(p, -q), first)
            first = desk.order(p, 0, 0, q)
            desk.order(0, q, p, 0)
            self.assertEqual(desk.order(p, 0, 0, q), first)

    def test_an_answer_changed_by_its_owner_changes_no_other(self):
        answer = desk.sign(1, 1)
        answer.append(7)
        self.assertEqual(desk.sign(1, 1), [0, 1])
        answer = desk.order(1, 1, 0, 0)
        answer[0] = 7
        self.assertEqual(desk.order(1, 1, 0, 0), [0, 1])

    def test_names_of_the_arguments(self):
        self.assertEqual(list(inspect.signature(desk.sign).parameters), ["p", "q"])
        self.assertEqual(list(inspect.signature(desk.order).parameters), ["ap", "aq", "bp", "bq"])
        self.assertEqual(desk.sign(q=-2, p=3), [0, 1])
        self.assertEqual(desk.order(bq=2, bp=0, aq=0, ap=3), [0, 1])

    def test_nothing_is_printed(self):
        printed = io.StringIO()
        with contextlib.redirect_stdout(printed), contextlib.redirect_stderr(printed):
            desk.sign(3, -2)
            desk.order(3, 0, 0, 2)
        self.assertEqual(printed.getvalue(), "")

    def test_nothing_from_outside_is_imported(self):
        for path in sorted(PACKAGE.rglob("*.py")):
            for node in ast.walk(ast.parse(path.read_text(encoding="utf-8"))):
                self.assertNotIsInstance(node, ast.Import, path)
                if isinstance(node, ast.ImportFrom):
                    self.assertEqual((node.level, node.module.split(".")[0]), (0, "pipereach"), path)


if __name__ == "__main__":
    unittest.main()
