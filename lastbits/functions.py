"""The calls."""

from lastbits.layouts import grains_of, is_number
from lastbits.rounding import rounded_once
from lastbits.values import has_value, value_of

LAST_FORMAT = 1
LAST_MODE = 3
LAST_FUNCTION = 8
MOST_NUMBERS = 8


def apply(the_format, mode, function, numbers):
    """0, then of each number the function's value of it, rounded once, and whether that is exact;
    or a refusal."""
    if the_format > LAST_FORMAT or mode > LAST_MODE or function > LAST_FUNCTION or len(numbers) > MOST_NUMBERS:
        return [-1]
    for place, bits in enumerate(numbers):
        if not is_number(the_format, bits):
            return [-2, place]
    for place, bits in enumerate(numbers):
        if not has_value(function, grains_of(the_format, bits)):
            return [-3, place]
    answer = [0]
    for bits in numbers:
        value = value_of(function, grains_of(the_format, bits))
        answer.extend(rounded_once(the_format, mode, value))
    return answer
