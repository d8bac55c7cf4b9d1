"""Rounding once: from a real number to the bits of a number of a format."""

from lastbits.layouts import BIASES, FRACTION_BITS, infinite_bits, sign_bit

# Numbers and the middles between them are whole multiples of 2 to -150, so a
# real number cut at more places than that still lies on its side of each.
CUT_PLACES = 160

NEAREST = 0
LOWER = 1
UPPER = 2

# How far a real number lies from the next number towards 0, on the way to the
# next one away from 0.
NOWHERE = 0
BEFORE_MIDDLE = 1
AT_MIDDLE = 2
BEHIND_MIDDLE = 3


class RealNumber:
    """A real number: whether it is below 0; its size times 2 to CUT_PLACES, cut to a whole
    number; and whether something was cut off."""

    def __init__(self, below, whole, cut):
        self.below = below
        self.whole = whole
        self.cut = cut


def rounded_once(the_format, mode, real):
    """The bits of the real number rounded by the mode, and 1 if they are its exact value, else 0."""
    fraction_bits = FRACTION_BITS[the_format]
    least_exponent = 1 - BIASES[the_format]
    exponent = max(real.whole.bit_length() - 1 - CUT_PLACES, least_exponent)
    shift = exponent - fraction_bits + CUT_PLACES
    # Sizes one behind another have bits one behind another, also where the
    # exponent grows: the highest bit that is kept counts the exponent up.
    size = ((exponent - least_exponent) << fraction_bits) + (real.whole >> shift)
    way = way_to_next(real, shift)
    greatest = infinite_bits(the_format) - 1
    if size > greatest:
        size = greatest
        way = BEHIND_MIDDLE
    if goes_away_from_zero(mode, real.below, size, way):
        size = size + 1
    # The exact 0 has no sign: it is never below 0.
    bits = size + sign_bit(the_format) if real.below else size
    return [bits, 1 if way == NOWHERE else 0]


def way_to_next(real, shift):
    """Where the size lies among the whole multiples of 2 to shift, counted in its last places."""
    rest = real.whole % (1 << shift)
    middle = 1 << (shift - 1)
    if rest == 0 and not real.cut:
        return NOWHERE
    if rest < middle:
        return BEFORE_MIDDLE
    if rest == middle and not real.cut:
        return AT_MIDDLE
    return BEHIND_MIDDLE


def goes_away_from_zero(mode, below, size, way):
    """Whether the next number away from 0 is told, not the one of this size."""
    if way == NOWHERE:
        return False
    if mode == NEAREST:
        return way == BEHIND_MIDDLE or (way == AT_MIDDLE and size % 2 == 1)
    if mode == LOWER:
        return below
    if mode == UPPER:
        return not below
    return False
