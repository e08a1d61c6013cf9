"""What several test files draw from: edges, lengths told by decimals, pairs that come very near to 0, and pipes."""

import contextlib
import decimal
import fractions
import io
import itertools

LOW = -9223372036854775808
HIGH = 9223372036854775807
MOST = 1099511627776
LARGEST = 4294967295
DIRECTIONS = {
    0: (1, 0, 0), 1: (-1, 0, 0), 2: (0, 1, 0), 3: (0, -1, 0), 4: (0, 0, 1), 5: (0, 0, -1),
    6: (1, 1, 0), 7: (1, -1, 0), 8: (-1, 1, 0), 9: (-1, -1, 0),
    10: (1, 0, 1), 11: (1, 0, -1), 12: (-1, 0, 1), 13: (-1, 0, -1),
    14: (0, 1, 1), 15: (0, 1, -1), 16: (0, -1, 1), 17: (0, -1, -1),
}


def number_of(p, q):
    """p + q r with 100 digits; the caller's own reckoning with it keeps to decimals() too."""
    with decimals():
        return decimal.Decimal(p) + decimal.Decimal(q) * decimal.Decimal(2).sqrt()


def decimals():
    context = decimal.Context(prec=100)
    return decimal.localcontext(context)


def sign_by_decimals(p, q):
    # A length other than 0 with p and q below 2^65 in size is above 10^-21 in size: 100 digits tell it apart.
    number = number_of(p, q)
    return (number > 0) - (number < 0)


def near_pairs(limit):
    """All (p, q, s), p and q above 0 and p at most limit, with p*p - 2*q*q of 1, -1, 2 or -2; s is its sign."""
    found = []
    p, q, s = 1, 1, -1
    while p <= limit:
        found.append((p, q, s))
        if 2 * q <= limit:
            found.append((2 * q, p, -s))
        p, q, s = p + 2 * q, p + q, -s
    return found


def check_answer(case, call, arguments, wanted):
    """The answer is the wanted one, of the right kinds, the same when asked again, and nothing is printed."""
    printed = io.StringIO()
    with contextlib.redirect_stdout(printed), contextlib.redirect_stderr(printed):
        first = call(*arguments)
        again = call(*arguments)
    case.assertEqual(first, wanted, (call.__name__, arguments))
    case.assertEqual(again, wanted, (call.__name__, arguments))
    case.assertIs(type(first), list)
    case.assertEqual({type(number) for number in first}, {int}, arguments)
    case.assertIsNot(first, again)
    case.assertEqual(printed.getvalue(), "")


class Surd:
    """a + b r, a and b fractions: what the tests reckon with, apart from the program."""

    def __init__(self, a, b=0):
        self.a = fractions.Fraction(a)
        self.b = fractions.Fraction(b)

    def __add__(self, other):
        return Surd(self.a + other.a, self.b + other.b)

    def __sub__(self, other):
        return Surd(self.a - other.a, self.b - other.b)

    def __mul__(self, other):
        return Surd(self.a * other.a + 2 * self.b * other.b, self.a * other.b + self.b * other.a)

    def __truediv__(self, other):
        norm = other.a * other.a - 2 * other.b * other.b
        return self * Surd(other.a / norm, -other.b / norm)

    def sign(self):
        if self.a >= 0 and self.b >= 0:
            return 1 if self.a or self.b else 0
        if self.a <= 0 and self.b <= 0:
            return -1
        return (1 if self.a > 0 else -1) * (1 if self.a * self.a > 2 * self.b * self.b else -1)

    def __lt__(self, other):
        return (self - other).sign() < 0

    def __le__(self, other):
        return (self - other).sign() <= 0

    def __eq__(self, other):
        return self.a == other.a and self.b == other.b

    def __repr__(self):
        return f"Surd({self.a}, {self.b})"


ZERO = Surd(0)
ONE = Surd(1)


def surd_of_answer(answer):
    return Surd(fractions.Fraction(answer[1], answer[3]), fractions.Fraction(answer[2], answer[3]))


def gone(the_dir, n):
    """The six numbers by which going n millimetres changes a place."""
    steps = DIRECTIONS[the_dir]
    numbers = []
    for step in steps:
        numbers += [2000 * n * step, 0] if the_dir < 6 else [0, 1000 * n * step]
    return numbers


def end_place(pipe):
    return [number + change for number, change in zip(pipe[:6], gone(pipe[6], pipe[7]))]


def surds(numbers):
    return [Surd(numbers[i], numbers[i + 1]) for i in (0, 2, 4)]


def dot_of(xs, ys):
    total = ZERO
    for x, y in zip(xs, ys):
        total = total + x * y
    return total


def least_square(one, other):
    """The square of how near two pipes are: the least of all the places in question, each asked by itself."""
    w = [a - b for a, b in zip(surds(one[:6]), surds(other[:6]))]
    u = [a - b for a, b in zip(surds(end_place(one)), surds(one[:6]))]
    v = [a - b for a, b in zip(surds(end_place(other)), surds(other[:6]))]
    uu, uv, vv, uw, vw, ww = (dot_of(*two) for two in ((u, u), (u, v), (v, v), (u, w), (v, w), (w, w)))
    places = list(itertools.product((ZERO, ONE), (ZERO, ONE)))
    places += [(s, (vw + s * uv) / vv) for s in (ZERO, ONE)]
    places += [((t * uv - uw) / uu, t) for t in (ZERO, ONE)]
    under = uu * vv - uv * uv
    if under != ZERO:
        places.append(((uv * vw - vv * uw) / under, (uu * vw - uv * uw) / under))
    two = Surd(2)
    found = None
    for s, t in places:
        if ZERO <= s and s <= ONE and ZERO <= t and t <= ONE:
            square = ww + s * s * uu + t * t * vv + two * (s * uw - t * vw - s * t * uv)
            if found is None or square < found:
                found = square
    return found


def pipe_through(place, the_dir, before, n, radius=0):
    """A pipe that comes through the place when it has gone so many millimetres."""
    start = [number - change for number, change in zip(place, gone(the_dir, before))]
    return start + [the_dir, n, radius]


class Watched(list):
    """A list that takes no change, not for a while either."""

    def refuse(self, *arguments, **named):
        raise AssertionError("a list that was handed in is changed")

    append = clear = extend = insert = pop = remove = reverse = sort = refuse
    __setitem__ = __delitem__ = __iadd__ = __imul__ = refuse


# A pipe that may be, and with each index what at that index makes it one that may not be.
GOOD_PIPE = [5, -6, 7, -8, 9, -10, 6, 3, 20]
WRONG_NUMBERS = [(index, wrong) for index in range(6) for wrong in (MOST + 1, -MOST - 1, HIGH, LOW)]
WRONG_NUMBERS += [(6, 18), (6, 19), (6, LARGEST), (7, 0), (7, 100001), (7, LARGEST), (8, 2001), (8, LARGEST)]
# A row of the interface hands over any of the nine numbers below 0 too; it's then none from 0, or from 1, on.
WRONG_NUMBERS += [(6, -1), (6, LOW), (7, -1), (7, LOW), (8, -1), (8, LOW), (6, HIGH), (7, HIGH), (8, HIGH)]


def pipes_that_may_not_be():
    pipes = []
    for index, wrong in WRONG_NUMBERS:
        pipes.append(GOOD_PIPE[:index] + [wrong] + GOOD_PIPE[index + 1:])
    return pipes + pipes_by_the_bound(1)


def pipes_by_the_bound(beyond):
    """Pipes that begin within what may be and end at its bound, or by so much beyond it, in each of their axes."""
    pipes = []
    for the_dir in DIRECTIONS:
        for n in (1, 100000):
            changes = gone(the_dir, n)
            for index in range(6):
                if changes[index] != 0:
                    start = [0] * 6
                    start[index] = (MOST + beyond if changes[index] > 0 else -MOST - beyond) - changes[index]
                    pipes.append(start + [the_dir, n, 0])
    return pipes


def check_pipe_refusals(case, call):
    """Refused 2 for each reason, in the first and in the second pipe and in both; and not at the bounds."""
    for wrong in pipes_that_may_not_be():
        check_answer(case, call, (wrong, GOOD_PIPE), [-2])
        check_answer(case, call, (GOOD_PIPE, wrong), [-2])
        check_answer(case, call, (wrong, wrong), [-2])
    at_bounds = [[5, -6, 7, -8, 9, -10, the_dir, n, r] for the_dir in (0, 17) for n in (1, 100000) for r in (0, 2000)]
    at_bounds += [[MOST] * 6 + [1, 1, 0], [-MOST] * 6 + [14, 1, 0]] + pipes_by_the_bound(0)
    for pipe in at_bounds:
        for answer in (call(pipe, GOOD_PIPE), call(GOOD_PIPE, pipe), call(pipe, pipe)):
            case.assertEqual(answer[0], 0, pipe)


def check_handed_in_stays(case, call, one, other):
    one, other = list(one), list(other)
    kept = (list(one), list(other))
    answer = call(one, other)
    case.assertEqual((one, other), kept)
    case.assertEqual(call(Watched(one), Watched(other)), answer)
    # One and the same list may be handed in twice.
    case.assertEqual(call(one, one), call(one, list(one)))
    case.assertEqual((one, other), kept)
