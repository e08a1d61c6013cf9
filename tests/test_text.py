"""text: point 5 of "The calls", and its row of "The interface"."""

import decimal
import inspect
import math
import unittest

from helper import HIGH, LARGEST, LOW, MOST, check_answer, decimals, near_pairs, number_of
from pipereach import desk

ALL_PLACES = range(7)


def text_by_decimals(p, q, places):
    number = number_of(p, q)
    with decimals():
        step = decimal.Decimal(1).scaleb(-places)
        told = (number / 2000).quantize(step, rounding=decimal.ROUND_HALF_EVEN)
        return f"{abs(told) if told == 0 else told:f}"


def nearest_ratios(ten):
    """(x, q), q at most MOST, with x over q very near to ten times r: its chain of fractions, and sums of two steps."""
    square = 2 * ten * ten
    whole = math.isqrt(square)
    held, under, part = 0, 1, whole
    before, now = (1, 0), (whole, 1)
    found = []
    while now[1] + before[1] <= MOST:
        found += [now, (now[0] + before[0], now[1] + before[1])]
        held = part * under - held
        under = (square - held * held) // under
        part = (whole + held) // under
        before, now = now, (part * now[0] + before[0], part * now[1] + before[1])
    return found


class Text(unittest.TestCase):
    def check(self, p, q, places, wanted):
        check_answer(self, desk.text, (p, q, places), [0] + list(wanted.encode("ascii")))

    def check_all(self, p, q, *wanted):
        for places, told in enumerate(wanted):
            self.check(p, q, places, told)

    def check_by_decimals(self, p, q, places):
        self.assertEqual(bytes(desk.text(p, q, places)[1:]).decode(), text_by_decimals(p, q, places), (p, q, places))

    def test_zero(self):
        self.check_all(0, 0, "0", "0.0", "0.00", "0.000", "0.0000", "0.00000", "0.000000")

    def test_the_bytes_of_its_signs(self):
        self.assertEqual(desk.text(-2500 * 2, 0, 1), [0, 45, 50, 46, 53])
        self.assertEqual(desk.text(0, 0, 0), [0, 48])

    def test_above_zero(self):
        self.check_all(2000, 0, "1", "1.0", "1.00", "1.000", "1.0000", "1.00000", "1.000000")
        self.check_all(24691, 0, "12", "12.3", "12.35", "12.346", "12.3455", "12.34550", "12.345500")
        self.check_all(0, 2000, "1", "1.4", "1.41", "1.414", "1.4142", "1.41421", "1.414214")
        self.check_all(2000, 1000, "2", "1.7", "1.71", "1.707", "1.7071", "1.70711", "1.707107")

    def test_below_zero(self):
        self.check_all(-2000, 0, "-1", "-1.0", "-1.00", "-1.000", "-1.0000", "-1.00000", "-1.000000")
        self.check_all(0, -2000, "-1", "-1.4", "-1.41", "-1.414", "-1.4142", "-1.41421", "-1.414214")
        self.check_all(2000, -2000, "0", "-0.4", "-0.41", "-0.414", "-0.4142", "-0.41421", "-0.414214")

    def test_below_1_in_size(self):
        self.check_all(120, 0, "0", "0.1", "0.06", "0.060", "0.0600", "0.06000", "0.060000")
        self.check_all(0, 1, "0", "0.0", "0.00", "0.001", "0.0007", "0.00071", "0.000707")
        self.check_all(1, 0, "0", "0.0", "0.00", "0.000", "0.0005", "0.00050", "0.000500")
        self.check_all(1998, 0, "1", "1.0", "1.00", "0.999", "0.9990", "0.99900", "0.999000")

    def test_below_zero_and_told_as_0(self):
        self.check_all(-1, 0, "0", "0.0", "0.00", "0.000", "-0.0005", "-0.00050", "-0.000500")
        self.check_all(-999, 0, "0", "-0.5", "-0.50", "-0.500", "-0.4995", "-0.49950", "-0.499500")
        self.check_all(-1000, 0, "0", "-0.5", "-0.50", "-0.500", "-0.5000", "-0.50000", "-0.500000")
        self.check_all(-100, 0, "0", "0.0", "-0.05", "-0.050", "-0.0500", "-0.05000", "-0.050000")
        # 8119 less 5741 r is below 0 by less than the last digit behind six places.
        self.check_all(8119 - 1, -5741 + 1, "0", "0.0", "0.00", "0.000", "0.0002", "0.00021", "0.000207")
        self.check_all(-665857, 470832, "0", "0.0", "0.00", "0.000", "0.0000", "0.00000", "0.000000")
        self.check_all(665857, -470832, "0", "0.0", "0.00", "0.000", "0.0000", "0.00000", "0.000000")

    def test_no_0_below_zero_ever(self):
        for p, q, s in near_pairs(MOST):
            if q > 100000:
                for places in ALL_PLACES:
                    told = "0." + "0" * places if places else "0"
                    self.check(p, -q, places, told)
                    self.check(-p, q, places, told)

    def test_two_as_near_without_places(self):
        for p, told in ((1000, "0"), (3000, "2"), (5000, "2"), (7000, "4"), (19000, "10"), (21000, "10")):
            self.check(p, 0, 0, told)
        for p, told in ((-1000, "0"), (-3000, "-2"), (-5000, "-2"), (-7000, "-4"), (-19000, "-10"), (-21000, "-10")):
            self.check(p, 0, 0, told)

    def test_two_as_near_with_places(self):
        for p, told in ((100, "0.0"), (300, "0.2"), (500, "0.2"), (1900, "1.0"), (2100, "1.0"), (2300, "1.2")):
            self.check(p, 0, 1, told)
            self.check(-p, 0, 1, "-" + told if p > 100 else told)
        for p, told in ((10, "0.00"), (30, "0.02"), (50, "0.02"), (1990, "1.00"), (2010, "1.00"), (2030, "1.02")):
            self.check(p, 0, 2, told)
            self.check(-p, 0, 2, "-" + told if p > 10 else told)
        for p, told in ((1, "0.000"), (3, "0.002"), (5, "0.002"), (1999, "1.000"), (2001, "1.000"), (2003, "1.002")):
            self.check(p, 0, 3, told)
            self.check(-p, 0, 3, "-" + told if p > 1 else told)

    def test_with_four_places_and_more_all_is_told_without_roots(self):
        self.check_all(-2001, 0, "-1", "-1.0", "-1.00", "-1.000", "-1.0005", "-1.00050", "-1.000500")
        self.check_all(2003, 0, "1", "1.0", "1.00", "1.002", "1.0015", "1.00150", "1.001500")

    def check_beside_a_middle(self, p, q, places, odd, side):
        """p + q r is just above (side 1) or below (side -1) odd halves of the last digit's worth."""
        with decimals():
            beside = number_of(p, q).scaleb(places) / 1000 - odd
            self.assertLess(0, beside * side)
            self.assertLess(abs(beside), decimal.Decimal("0.001"))
        self.assertEqual(odd % 2, 1)
        upper = (odd + side) // 2
        told = f"{abs(upper):0{places + 1}}"
        told = told[:-places] + "." + told[-places:] if places else told
        self.check(p, q, places, "-" + told if upper < 0 else told)

    def test_very_near_to_the_middle_of_two_with_few_places(self):
        for places, middle in ((0, 1000), (1, 100), (2, 10), (3, 1)):
            for p, q, s in near_pairs(MOST - 10000):
                for odd in (-3, -1, 1, 3, 5):
                    if q > 5000:
                        self.check_beside_a_middle(p + odd * middle, -q, places, odd, s)
                        self.check_beside_a_middle(-p - odd * middle, q, places, -odd, -s)

    def test_very_near_to_the_middle_of_two_with_many_places(self):
        for places, ten in ((4, 10), (5, 100), (6, 1000)):
            sides = set()
            for x, q in nearest_ratios(ten):
                if x % 2 == 1 and q > 1000:
                    s = 1 if x * x > 2 * ten * ten * q * q else -1
                    sides.add(s)
                    for p in (x // ten - 7, x // ten, x // ten + 1, x // ten + 8):
                        if p <= MOST:
                            self.check_beside_a_middle(p, -q, places, p * ten - x, s)
                            self.check_beside_a_middle(-p, q, places, x - p * ten, -s)
            self.assertEqual(sides, {1, -1}, places)

    def test_many_by_decimals(self):
        for p in range(-4321, 4322, 367):
            for q in range(-3210, 3211, 401):
                for places in ALL_PLACES:
                    self.check_by_decimals(p, q, places)
        for p in range(-2100, 2101):
            for places in (0, 1, 2, 3):
                self.check_by_decimals(p, 0, places)

    def test_bounds_of_what_may_be(self):
        self.check(MOST, 0, 0, "549755814")
        self.check(-MOST, 0, 6, "-549755813.888000")
        for p in (-MOST, -MOST + 1, 0, MOST - 1, MOST):
            for q in (-MOST, -MOST + 1, 0, MOST - 1, MOST):
                for places in ALL_PLACES:
                    self.check_by_decimals(p, q, places)

    def test_beyond_what_may_be(self):
        for places in ALL_PLACES:
            for beyond in (MOST + 1, -MOST - 1, HIGH, LOW):
                for inside in (-MOST, 0, MOST):
                    check_answer(self, desk.text, (beyond, inside, places), [-2])
                    check_answer(self, desk.text, (inside, beyond, places), [-2])

    def test_places_above_6(self):
        for places in (7, 8, LARGEST):
            check_answer(self, desk.text, (0, 0, places), [-1])
            check_answer(self, desk.text, (MOST, -MOST, places), [-1])

    def test_of_two_refusals_the_first(self):
        for places in (7, LARGEST):
            for beyond in (MOST + 1, -MOST - 1, HIGH, LOW):
                check_answer(self, desk.text, (beyond, 0, places), [-1])
                check_answer(self, desk.text, (0, beyond, places), [-1])

    def test_names_of_the_arguments(self):
        self.assertEqual(list(inspect.signature(desk.text).parameters), ["p", "q", "places"])
        self.assertEqual(bytes(desk.text(places=2, q=2000, p=-1000)[1:]), b"0.91")


if __name__ == "__main__":
    unittest.main()
