"""clash and meet: point 6 of "The calls", promises A3 and A4, and their rows of "The interface"."""

import inspect
import itertools
import random
import unittest

from helper import (
    DIRECTIONS, GOOD_PIPE, MOST, ONE, Surd, ZERO, check_answer, check_handed_in_stays, check_pipe_refusals,
    end_place, gone, least_square, near_pairs, pipe_through, surds,
)
from pipereach import desk

ORIGIN = [0, 0, 0, 0, 0, 0]
OFFSETS = (ORIGIN, [0, 0, 0, 0, 1, 0], [0, 1, 0, 0, 0, 0], [3, -2, 0, 0, 0, 0], [2000, 0, 2000, 0, 0, 0],
           [0, 1000, 0, -1000, 0, 0], [1, 0, 3, 0, 0, 0], [0, 1, 0, 0, 0, 1])
# How far each of two pipes has come at the places that OFFSETS sets beside one another; of 4 and of 8 millimetres.
COME = ((2, 3), (0, 0), (4, 8), (0, 8), (4, 0), (0, 3), (2, 8), (-1, 4), (1, 9))


def with_radius(pipe, radius):
    return pipe[:8] + [radius]


def moved_by(place, changes):
    return [number + change for number, change in zip(place, changes)]


def crossed(xs, ys):
    return [xs[i] * ys[j] - xs[j] * ys[i] for i, j in ((1, 2), (2, 0), (0, 1))]


def twice_place(start, along, part):
    numbers = []
    for x, u in zip(start, along):
        twice = Surd(2) * (x + part * u)
        numbers += [twice.a, twice.b]
    if any(number.denominator != 1 for number in numbers):
        raise AssertionError("not whole")
    return [int(number) for number in numbers]


def shared_on_a_line(start, along, other_start, other_end):
    """What pipes of one line share, by the parts of the first pipe at which the other's ends lie."""
    axis = [i for i in range(3) if along[i] != ZERO][0]
    parts = [(place[axis] - start[axis]) / along[axis] for place in (other_start, other_end)]
    low, high = parts if parts[0] < parts[1] else reversed(parts)
    low = low if ZERO < low else ZERO
    high = high if high < ONE else ONE
    if high < low:
        return [0]
    return twice_place(start, along, low) if low == high else [2]


def shared(one, other):
    """What meet is to answer behind the 0, by the equations axis by axis, without a distance."""
    start, end = surds(one[:6]), surds(end_place(one))
    other_start, other_end = surds(other[:6]), surds(end_place(other))
    u = [b - a for a, b in zip(start, end)]
    v = [b - a for a, b in zip(other_start, other_end)]
    gap = [b - a for a, b in zip(start, other_start)]
    normal = crossed(u, v)
    if all(number == ZERO for number in normal):
        if any(number != ZERO for number in crossed(gap, u)):
            return [0]
        return shared_on_a_line(start, u, other_start, other_end)
    axis = [i for i in range(3) if normal[i] != ZERO][0]
    s = crossed(gap, v)[axis] / normal[axis]
    t = crossed(gap, u)[axis] / normal[axis]
    if any(start[i] + s * u[i] != other_start[i] + t * v[i] for i in range(3)):
        return [0]
    if s < ZERO or ONE < s or t < ZERO or ONE < t:
        return [0]
    return twice_place(start, u, s)


def pairs_of_all_directions():
    for d, e in itertools.product(DIRECTIONS, DIRECTIONS):
        for before, other_before in COME:
            for number in (0, 1 + (d + e + before) % (len(OFFSETS) - 1)):
                yield pipe_through(ORIGIN, d, before, 4), pipe_through(OFFSETS[number], e, other_before, 8)


def rolled_pairs(seed, times):
    rolls = random.Random(seed)
    for _ in range(times):
        spread = rolls.choice((0, 1, 2, 3000, 10 ** 6))
        longest = rolls.choice((3, 1000))
        widest = rolls.choice((2, 2000))
        yield [
            [rolls.randint(-spread, spread) for _ in range(6)]
            + [rolls.randrange(18), rolls.randint(1, longest), rolls.randint(0, widest)]
            for _ in range(2)
        ]


class Clash(unittest.TestCase):
    def check(self, one, other, wanted):
        check_answer(self, desk.clash, (one, other), [0, wanted])
        check_answer(self, desk.clash, (other, one), [0, wanted])

    def test_nearer_just_as_near_and_farther(self):
        one = [0, 0, 0, 0, 0, 0, 0, 100, 20]
        for gap, wanted in ((0, 1), (1, 1), (99999, 1), (100000, 0), (100001, 0), (900000, 0)):
            self.check(one, [1000, 0, -2000, 0, gap, 0, 2, 2, 30], wanted)
            self.check(one, [1000, 0, -2000, 0, -gap, 0, 2, 2, 30], wanted)
            self.check(one, [1000, 0, gap, 0, 0, 0, 0, 2, 30], wanted)
            self.check(one, [200000 + gap, 0, 0, 0, 0, 0, 0, 2, 30], wanted)

    def test_both_radii_count(self):
        for radius in range(51):
            one = [0, 0, 0, 0, 0, 0, 0, 100, radius]
            other = [1000, 0, -2000, 0, 100000, 0, 2, 2, 50 - radius]
            self.check(one, other, 0)
            self.check(one, with_radius(other, 51 - radius), 1)

    def test_very_near_on_both_sides_with_a_part_of_roots(self):
        for radii in ((1, 0), (20, 30), (2000, 2000)):
            together = 2000 * sum(radii)
            one = [0, 0, 0, 0, 0, 0, 0, 100, radii[0]]
            for p, q, s in near_pairs(MOST - together):
                nearer = 1 if s < 0 else 0
                for gap, wanted in (([together + p, -q], nearer), ([together - p, q], 1 - nearer)):
                    other = [1000, 0, -2000, 0] + gap + [2, 2, radii[1]]
                    self.assertNotEqual(desk.how(one, other)[2], 0)
                    self.check(one, other, wanted)

    def test_very_near_on_both_sides_with_halves(self):
        # Pipes that go two axes and a third one: they are as near as the x between them over r.
        one = pipe_through(ORIGIN, 6, 5000, 10000, 20)
        self.check(one, pipe_through([0, 100000, 0, 0, 0, 0], 4, 5, 10, 30), 0)
        for p, q, s in near_pairs(MOST - 200000):
            if q < 10 ** 9:
                nearer = 1 if s < 0 else 0
                gap = [p, 100000 - q, 0, 0, 0, 0]
                self.check(one, pipe_through(gap, 4, 5, 10, 30), nearer)
                gap = [-p, 100000 + q, 0, 0, 0, 0]
                self.check(one, pipe_through(gap, 4, 5, 10, 30), 1 - nearer)

    def test_thirds(self):
        one = pipe_through(ORIGIN, 6, 5000, 10000, 1)
        # The square is x * x / 3, so 2000 lies between x = 3464 and x = 3465.
        self.check(one, pipe_through([3464, 0, 0, 0, 0, 0], 10, 5000, 10000, 0), 1)
        self.check(one, pipe_through([3465, 0, 0, 0, 0, 0], 10, 5000, 10000, 0), 0)

    def test_radii_of_0(self):
        one = [0, 0, 0, 0, 0, 0, 0, 10, 0]
        self.check(one, one, 0)
        self.check(one, [1000, 0, -2000, 0, 0, 0, 2, 2, 0], 0)
        self.check(one, [1000, 0, -2000, 0, 1, 0, 2, 2, 0], 0)
        self.check(one, [20000, 0, 0, 0, 0, 0, 0, 2, 0], 0)

    def test_in_common_with_a_radius_above_0(self):
        one = [0, 0, 0, 0, 0, 0, 0, 10, 0]
        for radius in (1, 2000):
            self.check(one, with_radius(one, radius), 1)
            self.check(one, [1000, 0, -2000, 0, 0, 0, 2, 2, radius], 1)
            self.check(one, [20000, 0, 0, 0, 0, 0, 0, 2, radius], 1)
            self.check(with_radius(one, radius), with_radius(one, radius), 1)

    def test_radii_of_0_and_2000(self):
        one = [0, 0, 0, 0, 0, 0, 0, 10, 0]
        for gap, wanted in ((3999999, 1), (4000000, 0), (4000001, 0)):
            self.check(one, [1000, 0, -2000, 0, gap, 0, 2, 2, 2000], wanted)
            self.check(with_radius(one, 2000), [1000, 0, -2000, 0, gap, 0, 2, 2, 0], wanted)
        for gap, wanted in ((7999999, 1), (8000000, 0)):
            self.check(with_radius(one, 2000), [1000, 0, -2000, 0, gap, 0, 2, 2, 2000], wanted)

    def test_every_pair_of_directions(self):
        seen = set()
        for number, (one, other) in enumerate(pairs_of_all_directions()):
            one, other = with_radius(one, number % 3), with_radius(other, number % 5 // 2)
            radii = Surd(2000 * (one[8] + other[8]))
            wanted = 1 if least_square(one, other) < radii * radii else 0
            seen.add(wanted)
            self.check(one, other, wanted)
        self.assertEqual(seen, {0, 1})

    def test_many_pairs(self):
        for one, other in rolled_pairs(81, 300):
            radii = Surd(2000 * (one[8] + other[8]))
            self.check(one, other, 1 if least_square(one, other) < radii * radii else 0)

    def test_refusals(self):
        check_pipe_refusals(self, desk.clash)

    def test_the_lists_handed_in_stay(self):
        check_handed_in_stays(self, desk.clash, GOOD_PIPE, [1, 2, 3, 4, 5, 6, 17, 8, 9])
        check_handed_in_stays(self, desk.clash, GOOD_PIPE, [1, 2, 3, 4, 5, 6, 17, 0, 9])

    def test_names_of_the_arguments(self):
        self.assertEqual(list(inspect.signature(desk.clash).parameters), ["one", "other"])
        self.assertEqual(desk.clash(other=GOOD_PIPE, one=GOOD_PIPE), [0, 1])


class Meet(unittest.TestCase):
    def check(self, one, other, *wanted):
        check_answer(self, desk.meet, (one, other), [0] + list(wanted))
        check_answer(self, desk.meet, (other, one), [0] + list(wanted))

    def test_no_place_in_common(self):
        one = [0, 0, 0, 0, 0, 0, 0, 10, 0]
        self.check(one, [1000, 0, -2000, 0, 1, 0, 2, 2, 0], 0)
        self.check(one, [1000, 0, 1, 0, 0, 0, 2, 2, 0], 0)
        self.check(one, [20001, 0, 0, 0, 0, 0, 2, 2, 0], 0)
        self.check(one, [-1, 0, 0, 0, 0, 0, 9, 2, 0], 0)
        self.check(one, [0, 0, 1, 0, 0, 0, 0, 10, 0], 0)

    def test_the_radius_changes_nothing(self):
        one = [0, 0, 0, 0, 0, 0, 0, 10, 2000]
        self.check(one, [1000, 0, -2000, 0, 1, 0, 2, 2, 2000], 0)
        self.check(one, [1000, 0, -2000, 0, 0, 0, 2, 2, 2000], 2000, 0, 0, 0, 0, 0)

    def test_very_near(self):
        one = [0, 0, 0, 0, 0, 0, 0, 10, 0]
        for p, q, s in near_pairs(MOST - 20000):
            for gap in ([p, -q], [-p, q]):
                self.check(one, [1000, 0, -2000, 0] + gap + [2, 2, 0], 0)
                self.check(one, [0, 0] + gap + [0, 0, 0, 10, 0], 0)
            # A length just above 0: out of the pipe by so little, then in it by so little.
            p, q = s * p, -s * q
            self.check(one, [-p, -q, 0, 0, 0, 0, 1, 2, 0], 0)
            self.check(one, [1000, 0, p, q, 0, 0, 2, 2, 0], 0)
            self.check(one, [20000 + p, q, 0, 0, 0, 0, 4, 2, 0], 0)
            self.check(one, [20000 + p, q, 0, 0, 0, 0, 0, 2, 0], 0)
            self.check(one, [20000 - p, -q, 0, 0, 0, 0, 4, 2, 0], 40000 - 2 * p, -2 * q, 0, 0, 0, 0)
            self.check(one, [20000 - p, -q, 0, 0, 0, 0, 0, 2, 0], 2)

    def test_the_ends_of_both(self):
        one = [0, 0, 0, 0, 0, 0, 0, 10, 0]
        self.check(one, [20000, 0, 0, 0, 0, 0, 2, 1, 0], 40000, 0, 0, 0, 0, 0)
        self.check(one, [20000, 0, 2000, 0, 0, 0, 3, 1, 0], 40000, 0, 0, 0, 0, 0)
        self.check(one, [0, 0, 0, 0, 0, 0, 10, 1, 0], 0, 0, 0, 0, 0, 0)
        self.check([1, 2, 3, 4, 5, 6, 6, 10, 0], [1, 10002, 3, 10004, 5, 6, 10, 1, 0], 2, 20004, 6, 20008, 10, 12)

    def test_an_end_of_the_one_within_the_other(self):
        one = [0, 0, 0, 0, 0, 0, 0, 10, 0]
        self.check(one, [6000, 0, 0, 0, 0, 0, 4, 1, 0], 12000, 0, 0, 0, 0, 0)
        self.check(one, [7, 5, 0, 1000, 0, 0, 7, 1, 0], 14, 2010, 0, 0, 0, 0)
        self.check(one, [7, 5, 0, -1000, 0, 1000, 15, 1, 0], 14, 10, 0, 0, 0, 0)

    def test_within_both(self):
        one = pipe_through([1, 2, 3, 4, 5, 6], 6, 3, 10)
        for the_dir in DIRECTIONS:
            if the_dir not in (6, 9):
                self.check(one, pipe_through([1, 2, 3, 4, 5, 6], the_dir, 2, 5), 2, 4, 6, 8, 10, 12)

    def test_a_place_at_halves(self):
        one = [0, 0, 0, 0, 0, 0, 6, 2, 0]
        self.check(one, [2001, 0, 0, 0, 0, 0, 8, 2, 0], 2001, 0, 2001, 0, 0, 0)
        self.check(one, [0, 1001, 0, 0, 0, 0, 8, 2, 0], 0, 1001, 0, 1001, 0, 0)
        self.check(one, [7, 1001, 4, 0, 0, 0, 8, 2, 0], 11, 1001, 11, 1001, 0, 0)
        one = [0, 0, 0, 0, 0, 0, 17, 2, 0]
        self.check(one, [0, 0, -2001, 0, 0, 0, 15, 2, 0], 0, 0, -2001, 0, -2001, 0)
        one = [-9, 0, 0, 0, -8, 0, 12, 2, 0]
        self.check(one, [-9, 0, 0, 0, 1001, 0, 13, 2, 0], -1027, 0, 0, 0, 993, 0)

    def test_parallel_that_share_just_an_end(self):
        for the_dir in DIRECTIONS:
            back = [e for e in DIRECTIONS if DIRECTIONS[e] == tuple(-step for step in DIRECTIONS[the_dir])][0]
            start = [1, 2, 3, 4, 5, 6]
            end = moved_by(start, gone(the_dir, 10))
            twice_start, twice_end = [2 * number for number in start], [2 * number for number in end]
            one = start + [the_dir, 10, 0]
            for n in (3, 10, 40):
                self.check(one, end + [the_dir, n, 0], *twice_end)
                self.check(one, moved_by(end, gone(the_dir, n)) + [back, n, 0], *twice_end)
                self.check(one, start + [back, n, 0], *twice_start)
                self.check(one, moved_by(start, gone(back, n)) + [the_dir, n, 0], *twice_start)

    def test_parallel_that_share_more(self):
        for the_dir in DIRECTIONS:
            back = [e for e in DIRECTIONS if DIRECTIONS[e] == tuple(-step for step in DIRECTIONS[the_dir])][0]
            start = [1, 2, 3, 4, 5, 6]
            one = start + [the_dir, 10, 0]
            self.check(one, one, 2)
            self.check(one, list(one), 2)
            self.check(one, end_place(one) + [back, 10, 0], 2)
            for n in (3, 7, 40):
                self.check(one, start + [the_dir, n, 0], 2)
                self.check(one, end_place(one) + [back, n, 0], 2)
                for come in (-1, 1, 9):
                    self.check(one, moved_by(start, gone(the_dir, come)) + [the_dir, n, 0], 2)
                for come in (1, 9, 12):
                    self.check(one, moved_by(start, gone(the_dir, come)) + [back, n, 0], 2)

    def test_parallel_that_share_none(self):
        for the_dir in DIRECTIONS:
            back = [e for e in DIRECTIONS if DIRECTIONS[e] == tuple(-step for step in DIRECTIONS[the_dir])][0]
            start = [1, 2, 3, 4, 5, 6]
            one = start + [the_dir, 10, 0]
            self.check(one, moved_by(start, gone(the_dir, 11)) + [the_dir, 5, 0], 0)
            self.check(one, moved_by(start, gone(the_dir, 16)) + [back, 5, 0], 0)
            self.check(one, moved_by(start, gone(the_dir, -1)) + [back, 5, 0], 0)
            self.check(one, moved_by(start, gone(the_dir, -6)) + [the_dir, 5, 0], 0)
            for index in range(6):
                # Of each axis by one: out of the line, for the number is none that going changes by so little.
                beside = list(start)
                beside[index] += 1
                if DIRECTIONS[the_dir][index // 2] == 0 or the_dir > 5:
                    self.check(one, beside + [the_dir, 10, 0], 0)
                    self.check(one, moved_by(beside, gone(the_dir, 10)) + [back, 10, 0], 0)

    def test_at_the_bounds(self):
        self.check([MOST] * 6 + [1, 1, 0], [MOST] * 6 + [3, 1, 0], *[2 * MOST] * 6)
        self.check([-MOST] * 6 + [6, 100000, 0], [-MOST] * 6 + [10, 1, 0], *[-2 * MOST] * 6)
        self.check([-MOST] * 6 + [6, 1, 0], [MOST] * 6 + [9, 1, 0], 0)

    def test_every_pair_of_directions(self):
        kinds = set()
        for one, other in pairs_of_all_directions():
            wanted = shared(one, other)
            kinds.add((len(wanted), wanted[0] if len(wanted) == 1 else None))
            self.check(one, other, *wanted)
        self.assertEqual(kinds, {(1, 0), (1, 2), (6, None)})

    def test_many_pairs(self):
        for one, other in rolled_pairs(82, 400):
            self.check(one, other, *shared(one, other))

    def test_refusals(self):
        check_pipe_refusals(self, desk.meet)

    def test_the_lists_handed_in_stay(self):
        check_handed_in_stays(self, desk.meet, GOOD_PIPE, [1, 2, 3, 4, 5, 6, 17, 8, 9])
        check_handed_in_stays(self, desk.meet, GOOD_PIPE, GOOD_PIPE[:6] + [14, 8, 9])
        check_handed_in_stays(self, desk.meet, GOOD_PIPE, GOOD_PIPE[:6] + [9, 8, 9])
        check_handed_in_stays(self, desk.meet, GOOD_PIPE, [1, 2, 3, 4, 5, 6, 17, 8, 2001])

    def test_names_of_the_arguments(self):
        self.assertEqual(list(inspect.signature(desk.meet).parameters), ["one", "other"])
        self.assertEqual(desk.meet(other=GOOD_PIPE, one=GOOD_PIPE), [0, 2])


class A4(unittest.TestCase):
    """Two pipes meet just if they're as near as 0."""

    def check(self, one, other):
        near = desk.how(one, other) == [0, 0, 0, 1]
        self.assertEqual(desk.meet(one, other) != [0, 0], near, (one, other))
        # Of two radii of which one is above 0 whatever meets clashes.
        if near:
            self.assertEqual(desk.clash(with_radius(one, 1), other), [0, 1])
        return near

    def test_every_pair_of_directions(self):
        self.assertEqual({self.check(one, other) for one, other in pairs_of_all_directions()}, {True, False})

    def test_many_pairs(self):
        self.assertEqual({self.check(one, other) for one, other in rolled_pairs(84, 2000)}, {True, False})


if __name__ == "__main__":
    unittest.main()
