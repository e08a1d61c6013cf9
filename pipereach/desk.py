"""The calls of pipereach. A length p + q r (r the root of 2) is handed over as p and q."""

MOST = 1099511627776
MILLIMETRE = 2000
FARTHEST = 1000000000
LONGEST_PIPE = 100000
WIDEST_PIPE = 2000
TENS = (1, 10, 100, 1000, 10000, 100000, 1000000)

DIRECTIONS = (
    (1, 0, 0), (-1, 0, 0), (0, 1, 0), (0, -1, 0), (0, 0, 1), (0, 0, -1),
    (1, 1, 0), (1, -1, 0), (-1, 1, 0), (-1, -1, 0),
    (1, 0, 1), (1, 0, -1), (-1, 0, 1), (-1, 0, -1),
    (0, 1, 1), (0, 1, -1), (0, -1, 1), (0, -1, -1),
)

# The degrees of a turn, by four times the square of its cosine with the cosine's sign: these are whole.
DEGREES = {4: 0, 2: 45, 1: 60, 0: 90, -1: 120, -2: 135, -4: 180}


def sign_of(p, q):
    # x * abs(x) grows with x, so p is to -q r as their squares with signs are;
    # these are whole numbers, and nothing is rounded however near the two come.
    weight = p * abs(p) + 2 * q * abs(q)
    if weight < 0:
        return -1
    if weight > 0:
        return 1
    return 0


def length_may_be(p, q):
    return abs(p) <= MOST and abs(q) <= MOST


def whole_of_roots(q):
    """The greatest whole number that is not above q r, q not below 0."""
    square = 2 * q * q
    # Begun above the root, this way of halving comes down to it and never falls below its whole part.
    guess = 2 * q
    while guess * guess > square:
        guess = (guess + square // guess) // 2
    return guess


def floor_of(p, q):
    """The greatest whole number that is not above p + q r."""
    if q < 0:
        # q r is never whole here, so the whole number below it is one further from 0.
        return p - whole_of_roots(-q) - 1
    return p + whole_of_roots(q)


def rounded_down(p, q, unit):
    # A multiple of the unit is whole: it is not above the length just if it is not above the length's floor.
    return floor_of(p, q) // unit


def rounded_up(p, q, unit):
    return -rounded_down(-p, -q, unit)


def nearest(p, q, unit):
    """The whole number of units nearest to p + q r, of two as near the even one."""
    found = rounded_down(2 * p + unit, 2 * q, 2 * unit)
    # Two are as near only without roots; then the upper of them was found.
    if q == 0 and (2 * p + unit) % (2 * unit) == 0 and found % 2 == 1:
        return found - 1
    return found


def decimal_text(number, places):
    """The number, told with its last so many digits behind the point."""
    front = "-" if number < 0 else ""
    digits = str(abs(number)).zfill(places + 1)
    if places == 0:
        return front + digits
    return front + digits[:-places] + "." + digits[-places:]


def is_direction(the_dir):
    return 0 <= the_dir < len(DIRECTIONS)


def dot(steps, others):
    return sum([step * other for step, other in zip(steps, others)])


def turn_of(steps, others):
    product = dot(steps, others)
    return DEGREES[4 * product * abs(product) // (dot(steps, steps) * dot(others, others))]


def place_may_be(place):
    return all([length_may_be(length[0], length[1]) for length in place])


def stride_of(steps, n):
    """By what length each axis of the steps changes when n millimetres are gone."""
    if dot(steps, steps) == 1:
        return (MILLIMETRE * n, 0)
    # By two axes each goes the n millimetres over r, and 2 over r is r.
    return (0, MILLIMETRE // 2 * n)


def moved(place, steps, stride):
    return tuple([(length[0] + step * stride[0], length[1] + step * stride[1]) for length, step in zip(place, steps)])


def numbers_of(place):
    numbers = []
    for length in place:
        numbers.extend(length)
    return numbers


def start_of(pipe):
    return ((pipe[0], pipe[1]), (pipe[2], pipe[3]), (pipe[4], pipe[5]))


def steps_of(pipe):
    return DIRECTIONS[pipe[6]]


def span_of(pipe):
    """How often the pipe goes its steps, as a length."""
    return stride_of(steps_of(pipe), pipe[7])


def end_of(pipe):
    return moved(start_of(pipe), steps_of(pipe), span_of(pipe))


def pipe_may_be(pipe):
    if not is_direction(pipe[6]) or not 1 <= pipe[7] <= LONGEST_PIPE or not 0 <= pipe[8] <= WIDEST_PIPE:
        return False
    return place_may_be(start_of(pipe)) and place_may_be(end_of(pipe))


def less(a, b):
    return (a[0] - b[0], a[1] - b[1])


def times(a, number):
    return (a[0] * number, a[1] * number)


def squared(a):
    return (a[0] * a[0] + 2 * a[1] * a[1], 2 * a[0] * a[1])


def is_below(a, b):
    return sign_of(a[0] - b[0], a[1] - b[1]) < 0


def gap_of(place, other):
    """How the first place lies from the other, axis by axis."""
    return tuple([less(length, base) for length, base in zip(place, other)])


def gap_along(gap, steps):
    return (dot([length[0] for length in gap], steps), dot([length[1] for length in gap], steps))


def gap_squared(gap):
    squares = [squared(length) for length in gap]
    return (sum([square[0] for square in squares]), sum([square[1] for square in squares]))


def cross(steps, others):
    return (
        steps[1] * others[2] - steps[2] * others[1],
        steps[2] * others[0] - steps[0] * others[2],
        steps[0] * others[1] - steps[1] * others[0],
    )


def twice_square_from(place, pipe):
    """Twice the square of how near the place is to the pipe: taken twice it is whole for every direction."""
    steps = steps_of(pipe)
    weight = dot(steps, steps)
    gap = gap_of(place, start_of(pipe))
    along = gap_along(gap, steps)
    if is_below(along, (0, 0)):
        return times(gap_squared(gap), 2)
    if is_below(times(span_of(pipe), weight), along):
        return times(gap_squared(gap_of(place, end_of(pipe))), 2)
    return less(times(gap_squared(gap), 2), times(squared(along), 2 // weight))


def twice_square_from_ends(one, other):
    """Twice the square of how near the pipes are if they are nearest at an end of either."""
    squares = [
        twice_square_from(start_of(one), other),
        twice_square_from(end_of(one), other),
        twice_square_from(start_of(other), one),
        twice_square_from(end_of(other), one),
    ]
    least = squares[0]
    for square in squares:
        if is_below(square, least):
            least = square
    return least


def is_from_0_to(a, bound):
    return not is_below(a, (0, 0)) and not is_below(bound, a)


def normal_of(one, other):
    return cross(steps_of(one), steps_of(other))


def steps_to_nearest(pipe, other):
    """How often the pipe's line goes its steps to be nearest to the other's line, times the square of the normal."""
    gap = gap_of(start_of(pipe), start_of(other))
    # There the gap goes by the normal alone. What is square to the normal and to the other's steps
    # leaves of it only what this pipe goes, and times the square of the normal that is whole.
    return gap_along(gap, cross(normal_of(pipe, other), steps_of(other)))


def nearest_lies_on(pipe, other):
    normal = normal_of(pipe, other)
    return is_from_0_to(steps_to_nearest(pipe, other), times(span_of(pipe), dot(normal, normal)))


def are_parallel(one, other):
    return normal_of(one, other) == (0, 0, 0)


def nearest_within_both(one, other):
    """Whether the one place of each line that is nearest to the other line lies on its pipe."""
    return not are_parallel(one, other) and nearest_lies_on(one, other) and nearest_lies_on(other, one)


def lowest_terms(a, under):
    # What stands under the line is 4 at the most here, so counting down is quick.
    common = under
    while a[0] % common != 0 or a[1] % common != 0 or under % common != 0:
        common -= 1
    return [a[0] // common, a[1] // common, under // common]


def square_apart(one, other):
    """The square of how near two pipes are: p, q and d of (p + q r) / d in lowest terms."""
    if nearest_within_both(one, other):
        gap = gap_of(start_of(one), start_of(other))
        normal = normal_of(one, other)
        return lowest_terms(squared(gap_along(gap, normal)), dot(normal, normal))
    # The distance has no dip but the one of both lines; apart from that it is least at an end of one.
    return lowest_terms(twice_square_from_ends(one, other), 2)


def twice_of(place):
    return tuple([times(length, 2) for length in place])


def twice_crossing(one, other):
    """Twice the place that two pipes which touch and aren't parallel have in common."""
    normal = normal_of(one, other)
    weight = dot(normal, normal)
    # An axis that only one of the pipes goes tells how often it goes its steps, whole, and with that the other.
    # If they go the same two axes, half of a whole sum tells it. So taken twice nothing is left over here.
    steps = times(steps_to_nearest(one, other), 2)
    often = (steps[0] // weight, steps[1] // weight)
    return moved(twice_of(start_of(one)), steps_of(one), often)


def shared_by_parallel(one, other):
    """What meet answers of two pipes that touch and are parallel, so lie on one line."""
    ends = (start_of(other), end_of(other))
    if dot(steps_of(one), steps_of(other)) < 0:
        ends = (end_of(other), start_of(other))
    # Walked the same way, they have but one place in common if the one ends where the other begins.
    if end_of(one) == ends[0]:
        return numbers_of(twice_of(ends[0]))
    if start_of(one) == ends[1]:
        return numbers_of(twice_of(ends[1]))
    return [2]


def sign(p, q):
    return [0, sign_of(p, q)]


def order(ap, aq, bp, bq):
    # a less b may lie outside the range of a length; sign_of has no range.
    return [0, sign_of(ap - bp, aq - bq)]


def sum_of(ap, aq, bp, bq):
    return [0, ap + bp, aq + bq]


def mm(p, q, way):
    if way > 2:
        return [-1]
    if not length_may_be(p, q):
        return [-2]
    if way == 0:
        return [0, rounded_down(p, q, MILLIMETRE)]
    if way == 1:
        return [0, rounded_up(p, q, MILLIMETRE)]
    return [0, nearest(p, q, MILLIMETRE)]


def turn(d, e):
    if not is_direction(d) or not is_direction(e):
        return [-1]
    return [0, turn_of(DIRECTIONS[d], DIRECTIONS[e])]


def go(xp, xq, yp, yq, zp, zq, the_dir, n):
    if not is_direction(the_dir) or abs(n) > FARTHEST:
        return [-1]
    place = ((xp, xq), (yp, yq), (zp, zq))
    if not place_may_be(place):
        return [-2]
    steps = DIRECTIONS[the_dir]
    reached = moved(place, steps, stride_of(steps, n))
    if not place_may_be(reached):
        return [-3]
    return [0] + numbers_of(reached)


def text(p, q, places):
    if places > 6:
        return [-1]
    if not length_may_be(p, q):
        return [-2]
    number = nearest(p * TENS[places], q * TENS[places], MILLIMETRE)
    return [0] + [ord(letter) for letter in decimal_text(number, places)]


def how(one, other):
    if not pipe_may_be(one) or not pipe_may_be(other):
        return [-2]
    return [0] + square_apart(one, other)


def clash(one, other):
    if not pipe_may_be(one) or not pipe_may_be(other):
        return [-2]
    square = square_apart(one, other)
    radii = MILLIMETRE * (one[8] + other[8])
    if is_below((square[0], square[1]), (square[2] * radii * radii, 0)):
        return [0, 1]
    return [0, 0]


def meet(one, other):
    if not pipe_may_be(one) or not pipe_may_be(other):
        return [-2]
    if square_apart(one, other) != [0, 0, 1]:
        return [0, 0]
    if are_parallel(one, other):
        return [0] + shared_by_parallel(one, other)
    return [0] + numbers_of(twice_crossing(one, other))
