"""What several test files draw from: edges, lengths told by decimals, pairs that come very near to 0."""

import contextlib
import decimal
import io

LOW = -9223372036854775808
HIGH = 9223372036854775807
MOST = 1099511627776
LARGEST = 4294967295
DIRECTIONS = {
    0: (1, 0, 0), 1: (-1, 0, 0), 2: (0, 1, 0), 3: (0, -1, 0), 4: (0, 0, 1), 5: (0, 0, -1),
    6: (1, 1, 0), 7: (1, -1, 0), 8: (-1, 1, 0), 9: (-1, -1, 0),
    10: (1, 0, 1), 11: (1, 0, -1), 12: (-1, 0, 1), 13: (-1, 0, -1),
    14: (0, 1, 1), 15: (0, 1, -1), 16: (0, -1, 1), 17: (0, -1, -1),
}


def number_of(p, q):
    """p + q r with 100 digits; the caller's own reckoning with it keeps to decimals() too."""
    with decimals():
        return decimal.Decimal(p) + decimal.Decimal(q) * decimal.Decimal(2).sqrt()


def decimals():
    context = decimal.Context(prec=100)
    return decimal.localcontext(context)


def sign_by_decimals(p, q):
    # A length other than 0 with p and q below 2^65 in size is above 10^-21 in size: 100 digits tell it apart.
    number = number_of(p, q)
    return (number > 0) - (number < 0)


def near_pairs(limit):
    """All (p, q, s), p and q above 0 and p at most limit, with p*p - 2*q*q of 1, -1, 2 or -2; s is its sign."""
    found = []
    p, q, s = 1, 1, -1
    while p <= limit:
        found.append((p, q, s))
        if 2 * q <= limit:
            found.append((2 * q, p, -s))
        p, q, s = p + 2 * q, p + q, -s
    return found


def check_answer(case, call, arguments, wanted):
    """The answer is the wanted one, of the right kinds, the same when asked again, and nothing is printed."""
    printed = io.StringIO()
    with contextlib.redirect_stdout(printed), contextlib.redirect_stderr(printed):
        first = call(*arguments)
        again = call(*arguments)
    case.assertEqual(first, wanted, (call.__name__, arguments))
    case.assertEqual(again, wanted, (call.__name__, arguments))
    case.assertIs(type(first), list)
    case.assertEqual({type(number) for number in first}, {int}, arguments)
    case.assertIsNot(first, again)
    case.assertEqual(printed.getvalue(), "")
