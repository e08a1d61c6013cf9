"""The calls of pipereach. A length p + q r (r the root of 2) is handed over as p and q."""


def sign_of(p, q):
    # x * abs(x) grows with x, so p is to -q r as their squares with signs are;
    # these are whole numbers, and nothing is rounded however near the two come.
    weight = p * abs(p) + 2 * q * abs(q)
    if weight < 0:
        return -1
    if weight > 0:
        return 1
    return 0


def sign(p, q):
    return [0, sign_of(p, q)]


def order(ap, aq, bp, bq):
    # a less b may lie outside the range of a length; sign_of has no range.
    return [0, sign_of(ap - bp, aq - bq)]
