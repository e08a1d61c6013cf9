"""The calls of pipereach. A length p + q r (r the root of 2) is handed over as p and q."""

MOST = 1099511627776
MILLIMETRE = 2000


def sign_of(p, q):
    # x * abs(x) grows with x, so p is to -q r as their squares with signs are;
    # these are whole numbers, and nothing is rounded however near the two come.
    weight = p * abs(p) + 2 * q * abs(q)
    if weight < 0:
        return -1
    if weight > 0:
        return 1
    return 0


def length_may_be(p, q):
    return abs(p) <= MOST and abs(q) <= MOST


def whole_of_roots(q):
    """The greatest whole number that is not above q r, q not below 0."""
    square = 2 * q * q
    # Begun above the root, this way of halving comes down to it and never falls below its whole part.
    guess = 2 * q
    while guess * guess > square:
        guess = (guess + square // guess) // 2
    return guess


def floor_of(p, q):
    """The greatest whole number that is not above p + q r."""
    if q < 0:
        # q r is never whole here, so the whole number below it is one further from 0.
        return p - whole_of_roots(-q) - 1
    return p + whole_of_roots(q)


def rounded_down(p, q, unit):
    # Between two multiples of a whole unit lie no others, so the part behind the point may go first.
    return floor_of(p, q) // unit


def rounded_up(p, q, unit):
    return -rounded_down(-p, -q, unit)


def nearest(p, q, unit):
    """The whole number of units nearest to p + q r, of two as near the even one."""
    found = rounded_down(2 * p + unit, 2 * q, 2 * unit)
    # Two are as near only without roots; then the upper of them was found.
    if q == 0 and (2 * p + unit) % (2 * unit) == 0 and found % 2 == 1:
        return found - 1
    return found


def sign(p, q):
    return [0, sign_of(p, q)]


def order(ap, aq, bp, bq):
    # a less b may lie outside the range of a length; sign_of has no range.
    return [0, sign_of(ap - bp, aq - bq)]


def sum_of(ap, aq, bp, bq):
    return [0, ap + bp, aq + bq]


def mm(p, q, way):
    if way > 2:
        return [-1]
    if not length_may_be(p, q):
        return [-2]
    if way == 0:
        return [0, rounded_down(p, q, MILLIMETRE)]
    if way == 1:
        return [0, rounded_up(p, q, MILLIMETRE)]
    return [0, nearest(p, q, MILLIMETRE)]
