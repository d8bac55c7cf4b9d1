"""The two formats: which bits are numbers, and what these numbers are."""

FRACTION_BITS = (10, 23)
EXPONENT_BITS = (5, 8)
BIASES = (15, 127)

# The smallest single above 0 is 2 to -149. Every number of either format is
# a whole number of times that: it is worked with as this whole number.
GRAIN_PLACES = 149


def sign_bit(the_format):
    """The highest bit of the format, by itself."""
    return 1 << (EXPONENT_BITS[the_format] + FRACTION_BITS[the_format])


def infinite_bits(the_format):
    """The bits of +infinite."""
    return sign_bit(the_format) - (1 << FRACTION_BITS[the_format])


def is_number(the_format, bits):
    """Whether the bits are those of a finite number of the format."""
    if bits >= 2 * sign_bit(the_format):
        return False
    return bits % sign_bit(the_format) < infinite_bits(the_format)


def grains_of(the_format, bits):
    """The number with these bits, times 2 to GRAIN_PLACES."""
    size = bits % sign_bit(the_format)
    fraction_bits = FRACTION_BITS[the_format]
    exponent = size >> fraction_bits
    fraction = size % (1 << fraction_bits)
    if exponent > 0:
        fraction = fraction + (1 << fraction_bits)
    place = max(exponent, 1) - BIASES[the_format] - fraction_bits
    grains = fraction << (place + GRAIN_PLACES)
    return grains if bits == size else -grains


def rank_of(the_format, bits):
    """How many steps from number to number lead up from 0 to the number with these bits;
    below 0 if they lead down. Both zeros have rank 0."""
    size = bits % sign_bit(the_format)
    return size if bits == size else -size


def bits_at(the_format, rank):
    """The bits of the number with this rank: the exact 0 is +0."""
    return rank if rank >= 0 else sign_bit(the_format) - rank
