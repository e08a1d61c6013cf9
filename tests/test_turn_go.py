"""turn and go: points 3 and 4 of "The calls", promise A2, and their rows of "The interface"."""

import inspect
import math
import unittest

from helper import DIRECTIONS, HIGH, LARGEST, LOW, MOST, check_answer
from pipereach import desk

ONE_AXIS = range(6)
TWO_AXES = range(6, 18)
FARTHEST = 1000000000
ORIGIN = (0, 0, 0, 0, 0, 0)
SOMEWHERE = (11, -22, 33, -44, 55, -66)
BEYOND = (MOST + 1, -MOST - 1, HIGH, LOW)


def degrees_between(d, e):
    # By an arc tangent, so that it hangs on no list of the angles there are.
    u, v = DIRECTIONS[d], DIRECTIONS[e]
    cross = math.hypot(u[1] * v[2] - u[2] * v[1], u[2] * v[0] - u[0] * v[2], u[0] * v[1] - u[1] * v[0])
    return math.degrees(math.atan2(cross, u[0] * v[0] + u[1] * v[1] + u[2] * v[2]))


def opposite(d):
    turned = tuple(-step for step in DIRECTIONS[d])
    return [e for e, steps in DIRECTIONS.items() if steps == turned][0]


def with_number(place, index, number):
    return place[:index] + (number,) + place[index + 1:]


def numbers_that_move(the_dir):
    """The indexes of the six numbers that going in the direction changes, each with 1 or -1."""
    root = 0 if the_dir in ONE_AXIS else 1
    return [(2 * axis + root, step) for axis, step in enumerate(DIRECTIONS[the_dir]) if step != 0]


class Turn(unittest.TestCase):
    def test_every_pair_of_directions(self):
        seen = set()
        for d in range(18):
            for e in range(18):
                wanted = degrees_between(d, e)
                self.assertAlmostEqual(wanted, round(wanted), 9)
                seen.add(round(wanted))
                check_answer(self, desk.turn, (d, e), [0, round(wanted)])
        self.assertEqual(seen, {0, 45, 60, 90, 120, 135, 180})

    def test_some_by_hand(self):
        check_answer(self, desk.turn, (0, 0), [0, 0])
        check_answer(self, desk.turn, (0, 1), [0, 180])
        check_answer(self, desk.turn, (0, 4), [0, 90])
        check_answer(self, desk.turn, (0, 6), [0, 45])
        check_answer(self, desk.turn, (1, 6), [0, 135])
        check_answer(self, desk.turn, (4, 6), [0, 90])
        check_answer(self, desk.turn, (6, 10), [0, 60])
        check_answer(self, desk.turn, (6, 13), [0, 120])
        check_answer(self, desk.turn, (6, 7), [0, 90])
        check_answer(self, desk.turn, (17, 14), [0, 180])
        check_answer(self, desk.turn, (17, 17), [0, 0])

    def test_above_17(self):
        for wrong in (18, 19, LARGEST):
            for d in range(18):
                check_answer(self, desk.turn, (wrong, d), [-1])
                check_answer(self, desk.turn, (d, wrong), [-1])
            check_answer(self, desk.turn, (wrong, 18), [-1])
            check_answer(self, desk.turn, (wrong, LARGEST), [-1])

    def test_names_of_the_arguments(self):
        self.assertEqual(list(inspect.signature(desk.turn).parameters), ["d", "e"])
        self.assertEqual(desk.turn(e=6, d=1), [0, 135])


class Go(unittest.TestCase):
    def check(self, place, the_dir, n, wanted):
        check_answer(self, desk.go, place + (the_dir, n), list(wanted))

    def test_one_axis(self):
        self.check(ORIGIN, 0, 1, (0, 2000, 0, 0, 0, 0, 0))
        self.check(ORIGIN, 1, 1, (0, -2000, 0, 0, 0, 0, 0))
        self.check(ORIGIN, 2, 1, (0, 0, 0, 2000, 0, 0, 0))
        self.check(ORIGIN, 3, 1, (0, 0, 0, -2000, 0, 0, 0))
        self.check(ORIGIN, 4, 1, (0, 0, 0, 0, 0, 2000, 0))
        self.check(ORIGIN, 5, 1, (0, 0, 0, 0, 0, -2000, 0))

    def test_two_axes(self):
        self.check(ORIGIN, 6, 3, (0, 0, 3000, 0, 3000, 0, 0))
        self.check(ORIGIN, 7, 3, (0, 0, 3000, 0, -3000, 0, 0))
        self.check(ORIGIN, 8, 3, (0, 0, -3000, 0, 3000, 0, 0))
        self.check(ORIGIN, 9, 3, (0, 0, -3000, 0, -3000, 0, 0))
        self.check(ORIGIN, 10, 3, (0, 0, 3000, 0, 0, 0, 3000))
        self.check(ORIGIN, 11, 3, (0, 0, 3000, 0, 0, 0, -3000))
        self.check(ORIGIN, 12, 3, (0, 0, -3000, 0, 0, 0, 3000))
        self.check(ORIGIN, 13, 3, (0, 0, -3000, 0, 0, 0, -3000))
        self.check(ORIGIN, 14, 3, (0, 0, 0, 0, 3000, 0, 3000))
        self.check(ORIGIN, 15, 3, (0, 0, 0, 0, 3000, 0, -3000))
        self.check(ORIGIN, 16, 3, (0, 0, 0, 0, -3000, 0, 3000))
        self.check(ORIGIN, 17, 3, (0, 0, 0, 0, -3000, 0, -3000))

    def test_every_direction_from_elsewhere(self):
        for the_dir in range(18):
            for n in (1, 7, 123456, 500000000, 0, -1, -7, -123456, -500000000):
                wanted = list(SOMEWHERE)
                for index, step in numbers_that_move(the_dir):
                    wanted[index] += step * n * (2000 if the_dir in ONE_AXIS else 1000)
                self.check(SOMEWHERE, the_dir, n, [0] + wanted)

    def test_going_0_stays(self):
        for the_dir in range(18):
            self.check(SOMEWHERE, the_dir, 0, (0,) + SOMEWHERE)

    def test_below_0_goes_the_other_way(self):
        for the_dir in range(18):
            for n in (1, 25, 400000000):
                self.assertEqual(desk.go(*SOMEWHERE, the_dir, -n), desk.go(*SOMEWHERE, opposite(the_dir), n))

    def test_n_at_its_bounds(self):
        self.check(ORIGIN, 6, FARTHEST, (0, 0, FARTHEST * 1000, 0, FARTHEST * 1000, 0, 0))
        self.check(ORIGIN, 6, -FARTHEST, (0, 0, -FARTHEST * 1000, 0, -FARTHEST * 1000, 0, 0))
        place = with_number(ORIGIN, 4, -MOST)
        self.check(place, 4, FARTHEST, (0, 0, 0, 0, 0, 2000 * FARTHEST - MOST, 0))
        self.check(place, 5, -FARTHEST, (0, 0, 0, 0, 0, 2000 * FARTHEST - MOST, 0))

    def test_n_beyond_its_bounds(self):
        for the_dir in range(18):
            for n in (FARTHEST + 1, -FARTHEST - 1, HIGH, LOW):
                self.check(ORIGIN, the_dir, n, [-1])

    def test_directions_above_17(self):
        for the_dir in (18, 19, LARGEST):
            for n in (-1, 0, 1):
                self.check(ORIGIN, the_dir, n, [-1])

    def test_places_at_the_bounds_of_what_may_be(self):
        for index in range(6):
            for bound in (MOST, -MOST):
                place = with_number(SOMEWHERE, index, bound)
                self.check(place, 0, 0, (0,) + place)
        for bound in (MOST, -MOST):
            self.check((bound,) * 6, 17, 0, [0] + [bound] * 6)

    def test_places_that_may_not_be(self):
        for index in range(6):
            for beyond in BEYOND:
                place = with_number(SOMEWHERE, index, beyond)
                for the_dir in range(18):
                    self.check(place, the_dir, 0, [-2])
                    self.check(place, the_dir, 5, [-2])
                    self.check(place, the_dir, -5, [-2])

    def test_no_going_mends_a_place_that_may_not_be(self):
        self.check(with_number(ORIGIN, 0, MOST + 1), 1, 1, [-2])
        self.check(with_number(ORIGIN, 3, -MOST - 1), 14, 1, [-2])

    def test_one_axis_to_the_bound_and_beyond(self):
        for the_dir in ONE_AXIS:
            for n in (1, 40, 500000000, FARTHEST):
                for index, step in numbers_that_move(the_dir):
                    place = with_number(SOMEWHERE, index, step * (MOST - 2000 * n))
                    self.check(place, the_dir, n, (0,) + with_number(place, index, step * MOST))
                    place = with_number(SOMEWHERE, index, step * (MOST - 2000 * n + 1))
                    self.check(place, the_dir, n, [-3])

    def test_two_axes_to_the_bound_and_beyond(self):
        for the_dir in TWO_AXES:
            for n in (1, 40, 500000000, FARTHEST):
                (first, one), (second, two) = numbers_that_move(the_dir)
                for index, step, other, its_step in ((first, one, second, two), (second, two, first, one)):
                    place = with_number(SOMEWHERE, other, -its_step * 500 * n)
                    wanted = with_number(place, other, its_step * 500 * n)
                    inside = with_number(place, index, step * (MOST - 1000 * n))
                    self.check(inside, the_dir, n, (0,) + with_number(wanted, index, step * MOST))
                    self.check(with_number(place, index, step * (MOST - 1000 * n + 1)), the_dir, n, [-3])

    def test_both_axes_at_the_bound(self):
        place = (0, MOST - 1000, 0, 1000 - MOST, 0, 0)
        self.check(place, 7, 1, (0, 0, MOST, 0, -MOST, 0, 0))
        self.check(with_number(place, 3, 999 - MOST), 7, 1, [-3])
        self.check(with_number(place, 1, MOST - 999), 7, 1, [-3])

    def test_what_does_not_move_may_stay_at_the_bound(self):
        self.check((MOST, 0, MOST, -MOST, -MOST, MOST), 1, 1, (0, MOST - 2000, 0, MOST, -MOST, -MOST, MOST))
        self.check((MOST, 0, MOST, 0, -MOST, MOST), 6, 1, (0, MOST, 1000, MOST, 1000, -MOST, MOST))

    def test_of_several_refusals_the_first(self):
        wrong = with_number(ORIGIN, 2, MOST + 1)
        self.check(wrong, 18, 0, [-1])
        self.check(wrong, 0, FARTHEST + 1, [-1])
        self.check(wrong, LARGEST, LOW, [-1])
        self.check(wrong, 2, 1, [-2])
        self.check(wrong, 0, FARTHEST, [-2])
        at_bound = with_number(ORIGIN, 2, MOST)
        self.check(at_bound, 2, FARTHEST + 1, [-1])
        self.check(at_bound, 18, 1, [-1])
        self.check(at_bound, 2, 1, [-3])

    def test_names_of_the_arguments(self):
        names = ["xp", "xq", "yp", "yq", "zp", "zq", "the_dir", "n"]
        self.assertEqual(list(inspect.signature(desk.go).parameters), names)
        answer = desk.go(n=2, the_dir=14, zq=6, zp=5, yq=4, yp=3, xq=2, xp=1)
        self.assertEqual(answer, [0, 1, 2, 3, 2004, 5, 2006])


class A2(unittest.TestCase):
    def going(self, place, the_dir, n):
        answer = desk.go(*place, the_dir, n)
        self.assertEqual(answer[0], 0)
        return tuple(answer[1:])

    def test_there_and_back(self):
        for the_dir in range(18):
            for n in (1, 999, 300000000, -1, -999, -300000000):
                there = self.going(SOMEWHERE, the_dir, n)
                self.assertNotEqual(there, SOMEWHERE)
                self.assertEqual(self.going(there, the_dir, -n), SOMEWHERE)
                self.assertEqual(self.going(there, opposite(the_dir), n), SOMEWHERE)

    def test_two_goings_in_either_order(self):
        for d in range(18):
            for e in range(18):
                for n, m in ((1, 2), (70000, -3), (-200000000, 200000000)):
                    one_first = self.going(self.going(SOMEWHERE, d, n), e, m)
                    other_first = self.going(self.going(SOMEWHERE, e, m), d, n)
                    self.assertEqual(one_first, other_first, (d, e, n, m))

    def test_a_loop_of_eight_elbows_closes(self):
        place = SOMEWHERE
        for the_dir in (0, 6, 2, 8, 1, 9, 3, 7):
            place = self.going(place, the_dir, 250)
        self.assertEqual(place, SOMEWHERE)


if __name__ == "__main__":
    unittest.main()
