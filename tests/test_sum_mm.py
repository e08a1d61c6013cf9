"""sum_of and mm: points 1 and 2 of "The calls", and their rows of "The interface"."""

import decimal
import inspect
import unittest

from helper import HIGH, LARGEST, LOW, MOST, check_answer, decimals, near_pairs, number_of
from pipereach import desk

DOWN, UP, NEAREST = 0, 1, 2
ROUNDINGS = (decimal.ROUND_FLOOR, decimal.ROUND_CEILING, decimal.ROUND_HALF_EVEN)


def mm_by_decimals(p, q, way):
    number = number_of(p, q)
    with decimals():
        return int((number / 2000).to_integral_value(rounding=ROUNDINGS[way]))


class SumOf(unittest.TestCase):
    def check(self, a, b, wanted):
        check_answer(self, desk.sum_of, a + b, [0] + list(wanted))
        check_answer(self, desk.sum_of, b + a, [0] + list(wanted))

    def test_ordinary_lengths(self):
        self.check((1, 2), (30, 40), (31, 42))
        self.check((5, -7), (-8, 11), (-3, 4))
        self.check((2000, 0), (0, 1000), (2000, 1000))
        self.check((-3, -4), (-5, -6), (-8, -10))

    def test_zero(self):
        self.check((0, 0), (0, 0), (0, 0))
        self.check((17, -4), (0, 0), (17, -4))
        self.check((17, -4), (-17, 4), (0, 0))

    def test_outside_the_range(self):
        self.check((HIGH, HIGH), (HIGH, HIGH), (18446744073709551614, 18446744073709551614))
        self.check((LOW, LOW), (LOW, LOW), (-18446744073709551616, -18446744073709551616))
        self.check((HIGH, 0), (1, 0), (9223372036854775808, 0))
        self.check((0, LOW), (0, -1), (0, -9223372036854775809))

    def test_ends_that_meet(self):
        self.check((HIGH, LOW), (LOW, HIGH), (-1, -1))
        self.check((HIGH, HIGH), (LOW, LOW), (-1, -1))

    def test_what_may_not_be_is_added_all_the_same(self):
        self.check((MOST, -MOST), (1, -1), (MOST + 1, -MOST - 1))

    def test_names_of_the_arguments(self):
        self.assertEqual(list(inspect.signature(desk.sum_of).parameters), ["ap", "aq", "bp", "bq"])
        self.assertEqual(desk.sum_of(bq=4000, bp=300, aq=20, ap=1), [0, 301, 4020])


class Mm(unittest.TestCase):
    def check(self, p, q, down, up, near):
        check_answer(self, desk.mm, (p, q, DOWN), [0, down])
        check_answer(self, desk.mm, (p, q, UP), [0, up])
        check_answer(self, desk.mm, (p, q, NEAREST), [0, near])

    def check_by_decimals(self, p, q):
        for way in (DOWN, UP, NEAREST):
            self.assertEqual(desk.mm(p, q, way), [0, mm_by_decimals(p, q, way)], (p, q, way))

    def test_zero(self):
        self.check(0, 0, 0, 0, 0)

    def test_above_zero(self):
        self.check(1, 0, 0, 1, 0)
        self.check(1999, 0, 0, 1, 1)
        self.check(2001, 0, 1, 2, 1)
        self.check(0, 1, 0, 1, 0)
        self.check(0, 1000, 0, 1, 1)
        self.check(0, 2000, 1, 2, 1)
        self.check(0, 2_000_000, 1414, 1415, 1414)
        self.check(3000, 1000, 2, 3, 2)

    def test_below_zero(self):
        self.check(-1, 0, -1, 0, 0)
        self.check(-1999, 0, -1, 0, -1)
        self.check(-2001, 0, -2, -1, -1)
        self.check(0, -1, -1, 0, 0)
        self.check(0, -1000, -1, 0, -1)
        self.check(0, -2_000_000, -1415, -1414, -1414)
        self.check(-3000, -1000, -3, -2, -2)

    def test_whole_millimetres(self):
        for whole in (0, 1, 2, 3, 7, 1000, 549755813, -1, -2, -3, -7, -1000, -549755813):
            self.check(2000 * whole, 0, whole, whole, whole)

    def test_halves_go_to_the_even_one(self):
        self.check(1000, 0, 0, 1, 0)
        self.check(3000, 0, 1, 2, 2)
        self.check(5000, 0, 2, 3, 2)
        self.check(7000, 0, 3, 4, 4)
        self.check(-1000, 0, -1, 0, 0)
        self.check(-3000, 0, -2, -1, -2)
        self.check(-5000, 0, -3, -2, -2)
        self.check(-7000, 0, -4, -3, -4)

    def test_one_beside_the_halves(self):
        self.check(999, 0, 0, 1, 0)
        self.check(1001, 0, 0, 1, 1)
        self.check(2999, 0, 1, 2, 1)
        self.check(5001, 0, 2, 3, 3)
        self.check(-1001, 0, -1, 0, -1)
        self.check(-999, 0, -1, 0, 0)
        self.check(-2999, 0, -2, -1, -1)
        self.check(-5001, 0, -3, -2, -3)

    def test_many_without_roots(self):
        for p in range(-12000, 12001, 250):
            for beside in (-1, 0, 1):
                self.check_by_decimals(p + beside, 0)

    def test_very_near_to_a_whole_millimetre(self):
        for p, q, s in near_pairs(MOST - 8000):
            for whole in (-3, -2, -1, 0, 1, 2, 3):
                down, up = (whole, whole + 1) if s == 1 else (whole - 1, whole)
                self.check(p + 2000 * whole, -q, down, up, whole)
                self.check(-p - 2000 * whole, q, -up, -down, -whole)

    def test_very_near_to_a_half_millimetre(self):
        for p, q, s in near_pairs(MOST - 8000):
            for whole in (-3, -2, -1, 0, 1, 2, 3):
                near = whole + 1 if s == 1 else whole
                self.check(p + 2000 * whole + 1000, -q, whole, whole + 1, near)
                self.check(-p - 2000 * whole - 1000, q, -whole - 1, -whole, -near)

    def test_roots_by_decimals(self):
        for p in range(-5000, 5001, 617):
            for q in range(-5000, 5001, 409):
                self.check_by_decimals(p, q)

    def test_bounds_of_what_may_be(self):
        self.check(MOST, 0, 549755813, 549755814, 549755814)
        self.check(-MOST, 0, -549755814, -549755813, -549755814)
        for p in (-MOST, -MOST + 1, -1, 0, 1, MOST - 1, MOST):
            for q in (-MOST, -MOST + 1, -1, 0, 1, MOST - 1, MOST):
                self.check_by_decimals(p, q)

    def test_beyond_what_may_be(self):
        for way in (DOWN, UP, NEAREST):
            for beyond in (MOST + 1, -MOST - 1, HIGH, LOW):
                for inside in (-MOST, 0, MOST):
                    check_answer(self, desk.mm, (beyond, inside, way), [-2])
                    check_answer(self, desk.mm, (inside, beyond, way), [-2])
                check_answer(self, desk.mm, (beyond, beyond, way), [-2])

    def test_ways_above_2(self):
        for way in (3, 4, LARGEST):
            check_answer(self, desk.mm, (0, 0, way), [-1])
            check_answer(self, desk.mm, (MOST, -MOST, way), [-1])

    def test_of_two_refusals_the_first(self):
        for way in (3, LARGEST):
            for beyond in (MOST + 1, -MOST - 1, HIGH, LOW):
                check_answer(self, desk.mm, (beyond, 0, way), [-1])
                check_answer(self, desk.mm, (0, beyond, way), [-1])

    def test_names_of_the_arguments(self):
        self.assertEqual(list(inspect.signature(desk.mm).parameters), ["p", "q", "way"])
        self.assertEqual(desk.mm(way=1, q=1000, p=4000), [0, 3])


if __name__ == "__main__":
    unittest.main()
