"""Rounding once by itself: turns that no function's value comes to."""

import unittest
from fractions import Fraction

from lastbits.rounding import CUT_PLACES, RealNumber, rounded_once
from tests.reference import GREATEST, INFINITE, SIGN, number, rounded

SMALLEST = (Fraction(2) ** -24, Fraction(2) ** -149)
TINY = Fraction(1, 2 ** 155)


def real_number(value):
    size = abs(value) * 2 ** CUT_PLACES
    whole = size.numerator // size.denominator
    return RealNumber(value < 0, whole, whole != size)


class RoundedOnce(unittest.TestCase):
    def expect(self, the_format, value, values, exact):
        for mode in range(4):
            with self.subTest(the_format=the_format, value=value, mode=mode):
                self.assertEqual(rounded_once(the_format, mode, real_number(value)), [values[mode], exact])

    def check(self, the_format, value):
        for sign in (1, -1):
            for mode in range(4):
                expected = rounded(the_format, mode, sign * value)
                answer = rounded_once(the_format, mode, real_number(sign * value))
                self.assertEqual(answer, expected, (the_format, mode, sign * value))

    def test_numbers_themselves(self):
        for the_format in range(2):
            for bits in (1, 2, GREATEST[the_format] // 3, GREATEST[the_format]):
                self.expect(the_format, number(the_format, bits), [bits] * 4, 1)
                self.expect(the_format, -number(the_format, bits), [SIGN[the_format] + bits] * 4, 1)
            self.expect(the_format, Fraction(0), [0] * 4, 1)

    def test_middles(self):
        for the_format, first in ((0, 0x0400), (1, 0x00800000)):
            for bits in (0, 1, 2, first - 2, first - 1, first, 2 * first - 1, 2 * first, 5 * first + 1,
                         GREATEST[the_format] - 1, GREATEST[the_format]):
                low = number(the_format, bits)
                middle = (low + number(the_format, bits + 1)) / 2
                even = bits if bits % 2 == 0 else bits + 1
                sign = SIGN[the_format]
                self.expect(the_format, middle, [even, bits, bits + 1, bits], 0)
                self.expect(the_format, -middle, [sign + even, sign + bits + 1, sign + bits, sign + bits], 0)

    def test_next_to_middles_and_numbers(self):
        for the_format, first in ((0, 0x0400), (1, 0x00800000)):
            for bits in (0, 1, 2, first - 1, first, 7 * first - 1, 7 * first, GREATEST[the_format]):
                low = number(the_format, bits)
                middle = (low + number(the_format, bits + 1)) / 2
                for value in (low + TINY, low + TINY / 2 ** 100, middle - TINY, middle + TINY,
                              middle - TINY / 2 ** 100, middle + TINY / 2 ** 100):
                    self.check(the_format, value)

    def test_beyond_the_greatest_and_the_least(self):
        for the_format in range(2):
            power = number(the_format, INFINITE[the_format])
            greatest, infinite, sign = GREATEST[the_format], INFINITE[the_format], SIGN[the_format]
            for value in (power, power + TINY, power * 3 / 2, power * 2, power * 2 ** 20 + 1):
                self.expect(the_format, value, [infinite, greatest, infinite, greatest], 0)
                self.expect(the_format, -value, [sign + infinite, sign + infinite, sign + greatest, sign + greatest], 0)
            before = (number(the_format, greatest) * 3 + power) / 4
            self.expect(the_format, before, [greatest, greatest, infinite, greatest], 0)
            self.expect(the_format, -before, [sign + greatest, sign + infinite, sign + greatest, sign + greatest], 0)

    def test_below_zero_rounded_to_zero(self):
        for the_format in range(2):
            sign = SIGN[the_format]
            for value in (SMALLEST[the_format] / 3, SMALLEST[the_format] / 2, TINY / 2 ** 100):
                self.expect(the_format, -value, [sign, sign + 1, sign, sign], 0)
                self.expect(the_format, value, [0, 0, 1, 0], 0)


if __name__ == "__main__":
    unittest.main()
