"""What the document asks for, found another way than by the program.

Values come from Python's decimal numbers, rounding from the document's own
words: the two numbers of the format next to the value are sought out.
"""

from decimal import MAX_EMAX, MIN_EMIN, Context, Decimal, ROUND_HALF_EVEN, localcontext
from fractions import Fraction

FRACTION_BITS = (10, 23)
EXPONENT_BITS = (5, 8)
BIAS = (15, 127)
INFINITE = (0x7C00, 0x7F800000)
GREATEST = (0x7BFF, 0x7F7FFFFF)
SIGN = (0x8000, 0x80000000)

DIGITS = Context(prec=320, rounding=ROUND_HALF_EVEN, Emax=MAX_EMAX, Emin=MIN_EMIN)
# Decimal values are right to far more digits than this.
CLOSENESS = Fraction(1, 10 ** 200)


def number(the_format, bits):
    """The number with these bits; +infinite and -infinite stand as the powers of 2 behind."""
    size = bits & (SIGN[the_format] - 1)
    exponent = size >> FRACTION_BITS[the_format]
    fraction = size & ((1 << FRACTION_BITS[the_format]) - 1)
    if exponent:
        fraction += 1 << FRACTION_BITS[the_format]
    value = fraction * Fraction(2) ** (max(exponent, 1) - BIAS[the_format] - FRACTION_BITS[the_format])
    return -value if bits & SIGN[the_format] else value


def ranked(the_format, rank):
    """The bits of the number that is the rank-th above (or below) 0."""
    return rank if rank >= 0 else SIGN[the_format] - rank


def lower_rank(the_format, value):
    """The rank of the greatest number that is at most the value."""
    low = -INFINITE[the_format]
    high = INFINITE[the_format]
    while high - low > 1:
        middle = (low + high) // 2
        if number(the_format, ranked(the_format, middle)) <= value:
            low = middle
        else:
            high = middle
    return low


def chosen_rank(the_format, mode, value, low):
    """Which of the two ranks low and low + 1 is told of a value between them."""
    if mode == 1:
        return low
    if mode == 2:
        return low + 1
    if mode == 3:
        return low if value > 0 else low + 1
    below = value - number(the_format, ranked(the_format, low))
    above = number(the_format, ranked(the_format, low + 1)) - value
    if below != above:
        return low if below < above else low + 1
    return low if ranked(the_format, low) % 2 == 0 else low + 1


def rounded(the_format, mode, value):
    """A rational number, rounded once: bits and 1 or 0."""
    low = lower_rank(the_format, value)
    if -INFINITE[the_format] < low and number(the_format, ranked(the_format, low)) == value:
        return [ranked(the_format, low), 1]
    rank = chosen_rank(the_format, mode, value, low)
    if rank == 0 and value < 0:
        return [SIGN[the_format], 0]
    return [ranked(the_format, rank), 0]


def bits_of(the_format, value):
    """The bits of a rational number that is the format's."""
    bits, exact = rounded(the_format, 0, Fraction(value))
    if not exact:
        raise ValueError("no number of the format")
    return bits


def power_of_two(exponent):
    return Fraction(2) ** exponent


def is_power_of_two(x):
    return x > 0 and x in (Fraction(x.numerator), Fraction(1, x.denominator)) \
        and (x.numerator * x.denominator).bit_count() == 1


def exact_root(x, degree):
    """The root of x if it is rational, else None."""
    places = 150 // degree
    whole = abs(x) * power_of_two(150)
    guess = round(Fraction(decimal_root(abs(x), degree)) * power_of_two(places))
    if guess ** degree != whole:
        return None
    return Fraction(guess if x > 0 else -guess) / power_of_two(places)


def exact_value(function, x):
    """The value if it is rational, else None."""
    if function in (7, 8):
        return exact_root(x, function - 5) if x else Fraction(0)
    if function == 1 and x.denominator == 1:
        return power_of_two(max(-1000, min(1000, x.numerator)))
    if function == 2 and x == 1:
        return Fraction(0)
    if function == 3 and is_power_of_two(x):
        return Fraction(x.numerator.bit_length() - x.denominator.bit_length())
    if x == 0:
        return Fraction(1) if function in (0, 5) else Fraction(0)
    return None


def decimal_of(x):
    return Decimal(x.numerator) / Decimal(x.denominator)


def half_pi():
    """By the means of Gauss and Legendre."""
    a, b, t, p = Decimal(1), Decimal("0.5").sqrt(), Decimal("0.25"), Decimal(1)
    for _ in range(10):
        middle = (a + b) / 2
        b = (a * b).sqrt()
        t -= p * (a - middle) ** 2
        a = middle
        p *= 2
    return (a + b) ** 2 / (8 * t)


def decimal_sine(x, turned):
    """The sine of x plus turned quarter turns."""
    quarter = half_pi()
    turns = (x / quarter).to_integral_value()
    rest = x - turns * quarter
    turns = (int(turns) + turned) % 4
    term = rest if turns % 2 == 0 else Decimal(1)
    count = 1 if turns % 2 == 0 else 0
    total = Decimal(0)
    while total + term != total:
        total += term
        term = -term * rest * rest / ((count + 1) * (count + 2))
        count += 2
    return total if turns < 2 else -total


def decimal_angle(x):
    for _ in range(6):
        x = x / (1 + (1 + x * x).sqrt())
    total = Decimal(0)
    power = x
    odd = 1
    while total + power / odd != total:
        total += power / odd
        power = -power * x * x
        odd += 2
    return total * 64


def decimal_root(x, degree):
    with localcontext(DIGITS):
        if degree == 2:
            return decimal_of(x).sqrt()
        return (decimal_of(x).ln() / 3).exp()


def decimal_value(function, x):
    with localcontext(DIGITS):
        if function < 2:
            held = max(Fraction(-1000), min(Fraction(1000), x))
            return (decimal_of(held) * (Decimal(2).ln() if function else 1)).exp()
        if function == 2:
            return decimal_of(x).ln()
        if function == 3:
            return decimal_of(x).ln() / Decimal(2).ln()
        if function in (4, 5):
            return decimal_sine(decimal_of(x), function - 4)
        if function == 6:
            return decimal_angle(decimal_of(x))
        root = decimal_root(abs(x), function - 5)
        return root if x > 0 else -root


def told(the_format, function, bits):
    """What is told of the number, by each of the four modes."""
    x = number(the_format, bits)
    exact = exact_value(function, x)
    if exact is not None:
        return [rounded(the_format, mode, exact) for mode in range(4)]
    near = Fraction(decimal_value(function, x))
    answers = []
    for mode in range(4):
        low = rounded(the_format, mode, near * (1 - CLOSENESS))
        if low != rounded(the_format, mode, near * (1 + CLOSENESS)) or low[1] == 1:
            raise ValueError("the decimal value does not settle the rounding")
        answers.append(low)
    return answers
