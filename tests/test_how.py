"""how: point 6 of "The calls", promise A3, and its row of "The interface"."""

import inspect
import math
import random
import unittest

from helper import (
    DIRECTIONS, GOOD_PIPE, MOST, Surd, check_answer, check_handed_in_stays, check_pipe_refusals, end_place,
    gone, least_square, pipe_through, surd_of_answer,
)
from pipereach import desk

BITS = 240
ROOT = math.isqrt(2 << (2 * BITS))
# What the search may miss: two squares (p + q r) / d of places that may be lie farther from one another.
MISSED = 1 << (2 * BITS - 110)


def enlarged(numbers):
    return [(numbers[i] << BITS) + numbers[i + 1] * ROOT for i in (0, 2, 4)]


def square_between(place, other):
    return sum((a - b) * (a - b) for a, b in zip(place, other))


def nearest_on(place, start, end):
    """The square of how near the place is to the pipe from start to end, all enlarged."""
    along = [b - a for a, b in zip(start, end)]
    gone_by = sum((a - b) * c for a, b, c in zip(place, start, along))
    whole = sum(c * c for c in along)
    gone_by = max(0, min(whole, gone_by))
    return square_between(place, [a + c * gone_by // whole for a, c in zip(start, along)])


def searched_square(one, other):
    """The least square found by asking ever nearer places of the one pipe; enlarged by the square of 2^BITS."""
    start, end = enlarged(one[:6]), enlarged(end_place(one))
    other_start, other_end = enlarged(other[:6]), enlarged(end_place(other))

    def square_at(part):
        place = [a + ((b - a) * part >> BITS) for a, b in zip(start, end)]
        return nearest_on(place, other_start, other_end)

    low, high = 0, 1 << BITS
    while high - low > 2:
        third = (high - low) // 3
        if square_at(low + third) <= square_at(high - third):
            high -= third
        else:
            low += third
    return min(square_at(part) for part in range(low, high + 1))


class How(unittest.TestCase):
    def check(self, one, other, p, q, d):
        check_answer(self, desk.how, (one, other), [0, p, q, d])
        check_answer(self, desk.how, (other, one), [0, p, q, d])

    def check_lowest(self, answer):
        self.assertEqual(len(answer), 4)
        self.assertEqual(answer[0], 0)
        self.assertGreater(answer[3], 0)
        self.assertEqual(math.gcd(answer[1], answer[2], answer[3]), 1, answer)

    def check_exact(self, one, other):
        answer = desk.how(one, other)
        self.check_lowest(answer)
        self.assertEqual(surd_of_answer(answer), least_square(one, other), (one, other))
        self.assertEqual(desk.how(other, one), answer, (one, other))
        return answer

    def check_by_search(self, one, other):
        _, p, q, d = desk.how(one, other)
        told = (p << (2 * BITS)) + (q * ROOT << BITS)
        for found in (searched_square(one, other), searched_square(other, one)):
            self.assertGreater(found * d - told, -MISSED, (one, other))
            self.assertLess(found * d - told, MISSED, (one, other))

    def test_nearest_at_an_end_of_both(self):
        one = [0, 0, 0, 0, 0, 0, 0, 1, 0]
        self.check(one, [5000, 0, 4000, 0, 0, 0, 2, 1, 0], 25000000, 0, 1)
        self.check(one, [5000, 0, 6000, 0, 0, 0, 3, 1, 0], 25000000, 0, 1)
        self.check(one, [-1, 0, -2, 0, -3, 0, 13, 9, 0], 14, 0, 1)
        self.check(one, [-1, -1, 0, 0, 0, 0, 12, 9, 0], 3, 2, 1)

    def test_nearest_at_an_end_of_one_and_within_the_other(self):
        self.check([0, 0, 0, 0, 0, 0, 0, 1, 0], [2500, 0, -2000, 0, 0, 0, 2, 2, 0], 250000, 0, 1)
        self.check([0, 0, 0, 0, 0, 0, 1, 1, 0], pipe_through([250, 0, 7, 0, 250, 0], 12, 1, 2), 125049, 0, 1)
        self.check([0, 0, 0, 0, 0, 0, 4, 5, 0], [0, 10, 0, -20000, -1, 0, 2, 100, 0], 201, 0, 1)

    def test_nearest_within_both(self):
        self.check([0, 0, 0, 0, 0, 0, 0, 2, 0], [1000, 0, -2000, 0, 7, 0, 2, 2, 0], 49, 0, 1)
        self.check([0, 0, 0, 0, 0, 0, 0, 2, 0], [1000, 0, -2000, 0, 1, -1, 2, 2, 0], 3, -2, 1)
        one = pipe_through([0, 0, 0, 0, 0, 0], 6, 5, 10)
        self.check(one, pipe_through([1, 0, 0, 0, 0, 0], 4, 5, 10), 1, 0, 2)
        self.check(one, pipe_through([1, 0, 0, 0, 0, 0], 10, 5, 10), 1, 0, 3)
        self.check(one, pipe_through([1, 1, 0, 0, 0, 0], 10, 5, 10), 3, 2, 3)
        self.check(one, pipe_through([1, 0, 0, 0, 3, 0], 7, 5, 10), 9, 0, 1)
        self.check(one, pipe_through([1, 0, 0, 0, 3, 0], 0, 5, 10), 9, 0, 1)

    def test_lowest_terms(self):
        one = pipe_through([0, 0, 0, 0, 0, 0], 6, 5, 10)
        self.check(one, pipe_through([2, 0, 0, 0, 0, 0], 4, 5, 10), 2, 0, 1)
        self.check(one, pipe_through([0, 1, 0, 0, 0, 0], 4, 5, 10), 1, 0, 1)
        self.check(one, pipe_through([1, 1, 0, 0, 0, 0], 4, 5, 10), 3, 2, 2)
        self.check(one, pipe_through([3, 0, 0, 0, 0, 0], 10, 5, 10), 3, 0, 1)
        self.check(one, pipe_through([0, 3, 0, 0, 0, 0], 10, 5, 10), 6, 0, 1)
        self.check(one, pipe_through([2, 0, 0, 0, 0, 0], 10, 5, 10), 4, 0, 3)
        self.check(one, pipe_through([4, 1, 0, 0, 0, 0], 10, 5, 10), 18, 8, 3)
        # An end of the one within the other, which goes by two axes.
        self.check(one, [1, 0, 0, 0, 0, 0, 7, 9, 0], 1, 0, 2)
        self.check(one, [1, 1, 0, 0, 0, 0, 7, 9, 0], 3, 2, 2)
        self.check(one, [1, 0, 1, 2, 0, 0, 8, 9, 0], 4, 0, 1)

    def test_parallel_side_by_side(self):
        one = [0, 0, 0, 0, 0, 0, 0, 10, 0]
        self.check(one, [0, 0, 3, 0, 4, 0, 0, 10, 0], 25, 0, 1)
        self.check(one, [1, 1, 3, 0, 0, 4, 0, 10, 0], 41, 0, 1)
        self.check(one, [30000, 0, 3, 0, 4, 1, 1, 10, 0], 27, 8, 1)
        one = [0, 0, 0, 0, 0, 0, 6, 10, 0]
        self.check(one, [1, 0, 0, 0, 0, 0, 6, 10, 0], 1, 0, 2)
        self.check(one, [0, 9000, 1, 9000, 0, 0, 9, 2, 0], 1, 0, 2)

    def test_parallel_behind_one_another(self):
        one = [0, 0, 0, 0, 0, 0, 0, 10, 0]
        self.check(one, [20005, 0, 0, 0, 0, 0, 0, 10, 0], 25, 0, 1)
        self.check(one, [20003, 0, 4, 0, 0, 0, 0, 10, 0], 25, 0, 1)
        self.check(one, [60003, 0, 4, 0, 0, 0, 1, 20, 0], 25, 0, 1)
        self.check(one, [-1, 0, 0, 0, 0, 1, 1, 20, 0], 3, 0, 1)
        one = [0, 0, 0, 0, 0, 0, 6, 10, 0]
        self.check(one, [1, 10000, 1, 10000, 0, 0, 6, 10, 0], 2, 0, 1)
        self.check(one, [1, 10000, 0, 10000, 0, 0, 6, 10, 0], 1, 0, 1)

    def test_parallel_one_over_the_other(self):
        one = [0, 0, 0, 0, 0, 0, 4, 10, 0]
        self.check(one, [0, 0, 0, 0, 9000, 0, 4, 10, 0], 0, 0, 1)
        self.check(one, [0, 0, 0, 0, 9000, 0, 5, 10, 0], 0, 0, 1)
        self.check(one, [7, 0, 0, 0, 9000, 0, 4, 10, 0], 49, 0, 1)
        self.check(one, [7, 0, 0, 0, 9000, 0, 4, 1, 0], 49, 0, 1)
        self.check(one, [7, 0, 0, 0, -9000, 0, 4, 100, 0], 49, 0, 1)

    def test_as_near_as_0(self):
        one = [0, 0, 0, 0, 0, 0, 0, 10, 0]
        self.check(one, one, 0, 0, 1)
        self.check(one, [20000, 0, 0, 0, 0, 0, 0, 10, 0], 0, 0, 1)
        self.check(one, [20000, 0, 0, 0, 0, 0, 4, 10, 0], 0, 0, 1)
        self.check(one, [10000, 0, 0, 0, -2000, 0, 4, 10, 0], 0, 0, 1)
        self.check(one, [10000, 0, 0, 0, 0, 0, 16, 10, 0], 0, 0, 1)
        self.check(one, [4000, 0, 0, 0, 0, 0, 0, 1, 0], 0, 0, 1)

    def test_the_same_pipe_twice(self):
        for the_dir in DIRECTIONS:
            for n in (1, 100000):
                pipe = [3, 5, 7, 11, 13, 17, the_dir, n, 9]
                self.check(pipe, pipe, 0, 0, 1)
                self.check(pipe, list(pipe), 0, 0, 1)

    def test_the_radius_changes_nothing(self):
        one, other = [0, 0, 0, 0, 0, 0, 0, 2, 0], [1000, 0, -2000, 0, 7, 0, 2, 2, 2000]
        self.check(one, other, 49, 0, 1)
        self.check(one[:8] + [2000], other, 49, 0, 1)

    def test_very_near(self):
        # 1 less r to the 30th power: far below 1, by a p and a q that may be.
        p, q = 1, 0
        for _ in range(30):
            p, q = p - 2 * q, q - p
        for the_dir in range(2, 6):
            other = pipe_through([1000, 0, 0, 0, 0, 0], the_dir, 1, 2)
            axis = 4 if the_dir in (2, 3) else 2
            other[axis], other[axis + 1] = p, q
            self.check([0, 0, 0, 0, 0, 0, 0, 2, 0], other, p * p + 2 * q * q, 2 * p * q, 1)

    def test_places_at_the_bounds(self):
        far = [MOST] * 6 + [1, 1, 0]
        self.check_by_search(far, [-MOST] * 6 + [0, 100000, 0])
        for the_dir in DIRECTIONS:
            for other_dir in DIRECTIONS:
                one = self.at_bound(the_dir, 1, 100000)
                other = self.at_bound(other_dir, -1, 99999)
                self.check_exact(one, other)
                self.check_exact(one, self.at_bound(other_dir, 1, 77))
        # x and z each come nearer by the one millimetre that one of the pipes goes.
        nearer, whole = Surd(2 * MOST - 2000, 2 * MOST), Surd(2 * MOST, 2 * MOST)
        wanted = nearer * nearer + whole * whole + nearer * nearer
        self.check(far, [-MOST] * 6 + [4, 1, 0], int(wanted.a), int(wanted.b), 1)

    def at_bound(self, the_dir, side, n):
        """A pipe in the corner of what may be that lies by all its six numbers on the side."""
        corner = [side * MOST] * 6
        changes = gone(the_dir, n)
        return [a - max(0, side * b) * side for a, b in zip(corner, changes)] + [the_dir, n, 0]

    def test_every_pair_of_directions_by_search(self):
        rolls = random.Random(61)
        for d in DIRECTIONS:
            for e in DIRECTIONS:
                for spread in (4000, 200):
                    one, other = [
                        [rolls.randint(-spread, spread) for _ in range(6)] + [the_dir, rolls.randint(1, 9), 0]
                        for the_dir in (d, e)
                    ]
                    self.check_exact(one, other)
                    self.check_by_search(one, other)

    def test_every_pair_of_directions_with_the_nearest_places_everywhere(self):
        offsets = ([0, 0, 0, 0, 0, 0], [3, -2, -1, 1, 2, 1], [700, 0, -300, 400, 0, -900])
        under = set()
        for d in DIRECTIONS:
            for e in DIRECTIONS:
                for number, (before, other_before) in enumerate(((2, 3), (0, 3), (2, 8), (4, 0), (-1, 3), (5, -2))):
                    one = pipe_through([0, 0, 0, 0, 0, 0], d, before, 4)
                    other = pipe_through(offsets[(number + d + e) % 3], e, other_before, 8)
                    under.add(self.check_exact(one, other)[3])
        self.assertEqual(under, {1, 2, 3})

    def test_many_pairs(self):
        rolls = random.Random(62)
        for _ in range(400):
            spread = rolls.choice((3, 50, 9000, 10 ** 6, 10 ** 9))
            one, other = [
                [rolls.randint(-spread, spread) for _ in range(6)]
                + [rolls.randrange(18), rolls.randint(1, rolls.choice((3, 100, 100000))), rolls.randint(0, 2000)]
                for _ in range(2)
            ]
            self.check_exact(one, other)

    def test_refusals(self):
        check_pipe_refusals(self, desk.how)

    def test_the_lists_handed_in_stay(self):
        check_handed_in_stays(self, desk.how, GOOD_PIPE, [1, 2, 3, 4, 5, 6, 17, 8, 9])
        check_handed_in_stays(self, desk.how, GOOD_PIPE, [1, 2, 3, 4, 5, 6, 18, 8, 9])

    def test_names_of_the_arguments(self):
        self.assertEqual(list(inspect.signature(desk.how).parameters), ["one", "other"])
        self.assertEqual(desk.how(other=GOOD_PIPE, one=GOOD_PIPE), [0, 0, 0, 1])


if __name__ == "__main__":
    unittest.main()
