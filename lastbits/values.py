"""The functions' exact values, cut as rounding needs them. x is handed over in grains."""

from lastbits.layouts import GRAIN_PLACES
from lastbits.nearing import SLACK, doublings, near_angle, near_binary_logarithm, near_cosine
from lastbits.nearing import near_exponential, near_logarithm, near_power_of_two, near_sine, whole_part
from lastbits.roots import cut_root, power_of
from lastbits.rounding import CUT_PLACES, RealNumber

EXPONENTIAL = 0
POWER_OF_TWO = 1
LOGARITHM = 2
BINARY_LOGARITHM = 3
SINE = 4
COSINE = 5
ANGLE = 6
SQUARE_ROOT = 7
CUBE_ROOT = 8

FIRST_PLACES = 256


def has_value(function, x):
    """Whether the function is told of x."""
    if function == LOGARITHM or function == BINARY_LOGARITHM:
        return x > 0
    if function == SQUARE_ROOT:
        return x >= 0
    return True


def value_of(function, x):
    """The function's value of x, as a real number that can be rounded."""
    if function == SQUARE_ROOT:
        return root_of(x, 2)
    if function == CUBE_ROOT:
        return root_of(x, 3)
    if function == EXPONENTIAL or function == POWER_OF_TWO:
        return value_from_near(function, held(x))
    return value_from_near(function, x)


def held(x):
    """x, or the bound it lies beyond: there e to x and 2 to x are so large, or so small, that
    rounding answers the same for all of them."""
    bound = CUT_PLACES << GRAIN_PLACES
    return max(-bound, min(x, bound))


def root_of(x, degree):
    """The square root or the cube root of x."""
    number = abs(x) << (degree * CUT_PLACES - GRAIN_PLACES)
    root = cut_root(number, degree)
    return RealNumber(x < 0, root, power_of(root, degree) != number)


def value_from_near(function, x):
    """The value, by as many places as are needed to know where it is cut.

    This ends: a value that exact_value doesn't tell is irrational, so places
    enough part it from every place at which it might be cut.
    """
    exact = exact_value(function, x)
    if exact is not None:
        return RealNumber(exact < 0, abs(exact), False)
    places = FIRST_PLACES
    while True:
        near = near_value(function, x, places)
        low = abs(near) - SLACK * places
        high = abs(near) + SLACK * places
        whole = low >> (places - CUT_PLACES)
        # This fails of itself while the sign is open: then low is below 0, high isn't.
        if whole == high >> (places - CUT_PLACES):
            return RealNumber(near < 0, whole, True)
        places = 2 * places


def exact_value(function, x):
    """The value times 2 to CUT_PLACES where it is rational, else None."""
    one = 1 << GRAIN_PLACES
    if function == POWER_OF_TWO and x % one == 0:
        return 1 << (CUT_PLACES + whole_part(x))
    if function == LOGARITHM and x == one:
        return 0
    if function == BINARY_LOGARITHM and x == 1 << (x.bit_length() - 1):
        return doublings(x) << CUT_PLACES
    if x != 0:
        return None
    return 0 if function == SINE or function == ANGLE else 1 << CUT_PLACES


def near_value(function, x, places):
    """The value in steps of 2 to -places, off by at most SLACK * places."""
    if function == EXPONENTIAL:
        return near_exponential(x, places)
    if function == POWER_OF_TWO:
        return near_power_of_two(x, places)
    if function == LOGARITHM:
        return near_logarithm(x, places)
    if function == BINARY_LOGARITHM:
        return near_binary_logarithm(x, places)
    if function == SINE:
        return near_sine(x, places)
    if function == COSINE:
        return near_cosine(x, places)
    return near_angle(x, places)
