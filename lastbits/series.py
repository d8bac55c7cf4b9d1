"""Sums that come near to values of functions, in whole numbers.

A value is worked with as a whole number of steps, a step being 2 to -places.
Each function says by how many steps at the most its answer is off; places is
200 or more everywhere. Divisions cut downwards, so each cut costs less than a
step.
"""


def exponential(rest, places):
    """e to rest, for rest from 0 to 0.7: off by at most 8 * places.

    A term is off by at most 0.7 times what the one before was, and 2: below 7.
    There are fewer than places terms, and those left out sum up to less than 20.
    """
    total = 0
    term = 1 << places
    count = 0
    while term > 0:
        total = total + term
        count = count + 1
        term = ((term * rest) >> places) // count
    return total


def logarithm_of_ratio(part, whole, places):
    """The logarithm of (whole + part) / (whole - part), for part / whole from 0 to 1/3:
    too small, by at most 3 * places.

    Half of it is the sum of z ** k / k over the odd k, z being part / whole. A
    power is off by at most 2, so a term by 3; each is a ninth of the one before
    or less, so there are at most places / 3 + 1 of them.
    """
    power = (part << places) // whole
    square = (power * power) >> places
    total = 0
    odd = 1
    while power > 0:
        total = total + power // odd
        power = (power * square) >> places
        odd = odd + 2
    return 2 * total


def logarithm_of_two(places):
    """The natural logarithm of 2: too small, by at most 3 * places."""
    return logarithm_of_ratio(1, 3, places)


def angle_of(part, whole, places):
    """The angle whose tangent is part / whole, from 0 to 1: too small, by at most 7 * places.

    Euler's sum is taken, since all its terms are above 0 and each is at most
    half of the one before. A term is off by at most half of what the one before
    was, and 3: at most 6. There are at most places of them, and those left out
    sum up to at most 12.
    """
    both = part * part + whole * whole
    ratio = ((part * part) << places) // both
    term = ((part * whole) << places) // both
    total = 0
    count = 0
    while term > 0:
        total = total + term
        count = count + 1
        term = ((term * ratio) >> places) * (2 * count) // (2 * count + 1)
    return total


def quarter_turn(places):
    """Half of pi, by Machin's sum: off by at most 56 * places."""
    return 8 * angle_of(1, 5, places) - 2 * angle_of(1, 239, places)


def alternating(first, drawn, angle, places):
    """first, less first times angle ** 2 / ((drawn + 1) * (drawn + 2)), and so on, for an angle
    of 0 to a quarter turn: off by at most 3 * places.

    A term is off by at most 3; from the third on each is less than a quarter of
    the one before, so there are at most places / 2 + 3 of them.
    """
    square = (angle * angle) >> places
    total = 0
    sign = 1
    term = first
    divisor = drawn
    while term > 0:
        total = total + sign * term
        sign = -sign
        term = ((term * square) >> places) // ((divisor + 1) * (divisor + 2))
        divisor = divisor + 2
    return total


def sine_of(angle, places):
    """The sine of an angle of 0 to a quarter turn: off by at most 3 * places."""
    return alternating(angle, 1, angle, places)


def cosine_of(angle, places):
    """The cosine of an angle of 0 to a quarter turn: off by at most 3 * places."""
    return alternating(1 << places, 0, angle, places)
