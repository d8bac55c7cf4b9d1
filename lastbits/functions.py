"""The calls."""

from lastbits.layouts import bits_at, grains_of, is_number, rank_of
from lastbits.rounding import rounded_once
from lastbits.values import has_value, value_of

LAST_FORMAT = 1
LAST_MODE = 3
LAST_FUNCTION = 8
MOST_NUMBERS = 8


def refusal_of_numbers(the_format, numbers):
    """The refusal that is due whatever is asked of the numbers, or None."""
    if the_format > LAST_FORMAT or len(numbers) > MOST_NUMBERS:
        return [-1]
    for place, bits in enumerate(numbers):
        if not is_number(the_format, bits):
            return [-2, place]
    return None


def apply(the_format, mode, function, numbers):
    """0, then of each number the function's value of it, rounded once, and whether that is exact;
    or a refusal."""
    if mode > LAST_MODE or function > LAST_FUNCTION:
        return [-1]
    refused = refusal_of_numbers(the_format, numbers)
    if refused is not None:
        return refused
    for place, bits in enumerate(numbers):
        if not has_value(function, grains_of(the_format, bits)):
            return [-3, place]
    answer = [0]
    for bits in numbers:
        value = value_of(function, grains_of(the_format, bits))
        answer.extend(rounded_once(the_format, mode, value))
    return answer


def between(the_format, numbers):
    """0, then of each number the bits of the number next below it and next above it; or a refusal."""
    refused = refusal_of_numbers(the_format, numbers)
    if refused is not None:
        return refused
    answer = [0]
    for bits in numbers:
        rank = rank_of(the_format, bits)
        # The bits one rank behind the greatest finite size are those of infinite.
        answer.extend([bits_at(the_format, rank - 1), bits_at(the_format, rank + 1)])
    return answer
