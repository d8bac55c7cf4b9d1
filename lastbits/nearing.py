"""The functions' values from near: whole numbers of steps, a step being 2 to -places.

x is handed over in grains. Each function here may be asked for 200 places or
more, and is off by at most SLACK * places steps.
"""

from lastbits.layouts import GRAIN_PLACES
from lastbits.series import angle_of, cosine_of, exponential, logarithm_of_ratio
from lastbits.series import logarithm_of_two, quarter_turn, sine_of

# Far more than any of the functions is off by: a few places too many cost
# little, one too few would cost a right last bit.
SLACK = 65536


def whole_part(x):
    """The greatest whole number that is at most x."""
    return x >> GRAIN_PLACES


def scaled(rest, exponent, inner, places):
    """e to rest times 2 to exponent; rest has inner places, which are places + exponent or more."""
    return exponential(rest, inner) >> (inner - places - exponent)


def inner_places(x, places):
    """As many places as the growth of e to x or 2 to x will use up."""
    return places + 2 + 2 * max(0, whole_part(x))


def near_exponential(x, places):
    """e to x, for x from -160 to 160.

    There are at most 232 logarithms of 2 in x, each off by 3 * inner, so e to
    rest is off by at most 1500 * inner; inner is at most 3 * places.
    """
    inner = inner_places(x, places)
    steps = x << (inner - GRAIN_PLACES)
    two = logarithm_of_two(inner)
    return scaled(steps % two, steps // two, inner, places)


def near_power_of_two(x, places):
    """2 to x, for x from -160 to 160: off by at most 45 * places, as above."""
    inner = inner_places(x, places)
    behind = x - (whole_part(x) << GRAIN_PLACES)
    rest = (behind * logarithm_of_two(inner)) >> GRAIN_PLACES
    return scaled(rest, whole_part(x), inner, places)


def doublings(x):
    """The greatest k for which 2 to k is at most x."""
    return x.bit_length() - 1 - GRAIN_PLACES


def logarithm_behind_doublings(x, places):
    """The natural logarithm of x / 2 to doublings(x), which is from 1 to 2."""
    power = 1 << (x.bit_length() - 1)
    return logarithm_of_ratio(x - power, x + power, places)


def near_logarithm(x, places):
    """The natural logarithm of x: off by at most 150 times 3 * places."""
    return doublings(x) * logarithm_of_two(places) + logarithm_behind_doublings(x, places)


def near_binary_logarithm(x, places):
    """The logarithm to base 2: a quotient of two that are off by 3 * places, so off by 12 * places."""
    behind = (logarithm_behind_doublings(x, places) << places) // logarithm_of_two(places)
    return (doublings(x) << places) + behind


def near_wave(x, turned, places):
    """The sine of x plus turned quarter turns: off by at most 120 * places.

    x holds about as many quarter turns as its whole part tells, and each is off
    by 56 * inner: as many more places as that whole part has make up for it.
    """
    inner = places + max(0, abs(x).bit_length() - GRAIN_PLACES)
    steps = x << (inner - GRAIN_PLACES)
    quarter = quarter_turn(inner)
    angle = (steps % quarter) >> (inner - places)
    turns = (steps // quarter + turned) % 4
    size = sine_of(angle, places) if turns % 2 == 0 else cosine_of(angle, places)
    return size if turns < 2 else -size


def near_sine(x, places):
    """The sine of x."""
    return near_wave(x, 0, places)


def near_cosine(x, places):
    """The cosine of x."""
    return near_wave(x, 1, places)


def near_angle(x, places):
    """The angle whose tangent is x: off by at most 63 * places."""
    size = abs(x)
    one = 1 << GRAIN_PLACES
    if size <= one:
        angle = angle_of(size, one, places)
    else:
        angle = quarter_turn(places) - angle_of(one, size, places)
    return angle if x > 0 else -angle
