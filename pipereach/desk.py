"""The calls of pipereach. A length p + q r (r the root of 2) is handed over as p and q."""

MOST = 1099511627776
MILLIMETRE = 2000
FARTHEST = 1000000000

DIRECTIONS = (
    (1, 0, 0), (-1, 0, 0), (0, 1, 0), (0, -1, 0), (0, 0, 1), (0, 0, -1),
    (1, 1, 0), (1, -1, 0), (-1, 1, 0), (-1, -1, 0),
    (1, 0, 1), (1, 0, -1), (-1, 0, 1), (-1, 0, -1),
    (0, 1, 1), (0, 1, -1), (0, -1, 1), (0, -1, -1),
)

# The degrees of a turn, by four times the square of its cosine with the cosine's sign: these are whole.
DEGREES = {4: 0, 2: 45, 1: 60, 0: 90, -1: 120, -2: 135, -4: 180}


def sign_of(p, q):
    # x * abs(x) grows with x, so p is to -q r as their squares with signs are;
    # these are whole numbers, and nothing is rounded however near the two come.
    weight = p * abs(p) + 2 * q * abs(q)
    if weight < 0:
        return -1
    if weight > 0:
        return 1
    return 0


def length_may_be(p, q):
    return abs(p) <= MOST and abs(q) <= MOST


def whole_of_roots(q):
    """The greatest whole number that is not above q r, q not below 0."""
    square = 2 * q * q
    # Begun above the root, this way of halving comes down to it and never falls below its whole part.
    guess = 2 * q
    while guess * guess > square:
        guess = (guess + square // guess) // 2
    return guess


def floor_of(p, q):
    """The greatest whole number that is not above p + q r."""
    if q < 0:
        # q r is never whole here, so the whole number below it is one further from 0.
        return p - whole_of_roots(-q) - 1
    return p + whole_of_roots(q)


def rounded_down(p, q, unit):
    # Between two multiples of a whole unit lie no others, so the part behind the point may go first.
    return floor_of(p, q) // unit


def rounded_up(p, q, unit):
    return -rounded_down(-p, -q, unit)


def nearest(p, q, unit):
    """The whole number of units nearest to p + q r, of two as near the even one."""
    found = rounded_down(2 * p + unit, 2 * q, 2 * unit)
    # Two are as near only without roots; then the upper of them was found.
    if q == 0 and (2 * p + unit) % (2 * unit) == 0 and found % 2 == 1:
        return found - 1
    return found


def is_direction(the_dir):
    return 0 <= the_dir < len(DIRECTIONS)


def dot(steps, others):
    return sum([step * other for step, other in zip(steps, others)])


def turn_of(steps, others):
    product = dot(steps, others)
    return DEGREES[4 * product * abs(product) // (dot(steps, steps) * dot(others, others))]


def place_may_be(place):
    return all([length_may_be(length[0], length[1]) for length in place])


def stride_of(steps, n):
    """By what length each axis of the steps changes when n millimetres are gone."""
    if dot(steps, steps) == 1:
        return (MILLIMETRE * n, 0)
    # By two axes each goes the n millimetres over r, and 2 over r is r.
    return (0, MILLIMETRE // 2 * n)


def moved(place, steps, stride):
    return tuple([(length[0] + step * stride[0], length[1] + step * stride[1]) for length, step in zip(place, steps)])


def numbers_of(place):
    numbers = []
    for length in place:
        numbers.extend(length)
    return numbers


def sign(p, q):
    return [0, sign_of(p, q)]


def order(ap, aq, bp, bq):
    # a less b may lie outside the range of a length; sign_of has no range.
    return [0, sign_of(ap - bp, aq - bq)]


def sum_of(ap, aq, bp, bq):
    return [0, ap + bp, aq + bq]


def mm(p, q, way):
    if way > 2:
        return [-1]
    if not length_may_be(p, q):
        return [-2]
    if way == 0:
        return [0, rounded_down(p, q, MILLIMETRE)]
    if way == 1:
        return [0, rounded_up(p, q, MILLIMETRE)]
    return [0, nearest(p, q, MILLIMETRE)]


def turn(d, e):
    if not is_direction(d) or not is_direction(e):
        return [-1]
    return [0, turn_of(DIRECTIONS[d], DIRECTIONS[e])]


def go(xp, xq, yp, yq, zp, zq, the_dir, n):
    if not is_direction(the_dir) or abs(n) > FARTHEST:
        return [-1]
    place = ((xp, xq), (yp, yq), (zp, zq))
    if not place_may_be(place):
        return [-2]
    steps = DIRECTIONS[the_dir]
    reached = moved(place, steps, stride_of(steps, n))
    if not place_may_be(reached):
        return [-3]
    return [0] + numbers_of(reached)
