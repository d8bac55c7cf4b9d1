"""What rounding builds on: values from near within their bound, and values cut at the right place."""

import unittest
from fractions import Fraction

from lastbits.layouts import GRAIN_PLACES, grains_of
from lastbits.nearing import SLACK
from lastbits.roots import cut_root
from lastbits.rounding import CUT_PLACES
from lastbits.values import near_value, value_of
from tests.reference import decimal_value, exact_value, number

NUMBERS = (1, 2, 0x7FFFFF, 0x12345678, 0x33800000, 0x3F000000, 0x3F7FFFFF, 0x3F800000, 0x3F800001, 0x40490FDB,
           0x42B17217, 0x431FFFFF, 0x4B7FFFFF, 0x6F79BE45, 0x7F7FFFFF)


def arguments(function):
    """Numbers that the function is told of, with their grains."""
    signs = (0,) if function in (2, 3, 7) else (0, 0x80000000)
    for bits in NUMBERS:
        for sign in signs:
            if function > 1 or bits <= 0x431FFFFF:
                yield number(1, sign + bits), grains_of(1, sign + bits)


class Near(unittest.TestCase):
    def test_off_by_no_more_than_is_said(self):
        for function in range(7):
            for x, grains in arguments(function):
                exact = exact_value(function, x)
                value = Fraction(decimal_value(function, x)) if exact is None else exact
                for places in (200, 256, 512):
                    off = abs(near_value(function, grains, places) - value * 2 ** places)
                    self.assertLessEqual(off, SLACK * places, (function, x, places))


class Cut(unittest.TestCase):
    def test_cut_where_it_is_said(self):
        for function in range(9):
            for x, grains in arguments(function):
                exact = exact_value(function, x)
                value = Fraction(decimal_value(function, x)) if exact is None else exact
                real = value_of(function, grains)
                size = abs(value) * 2 ** CUT_PLACES
                self.assertEqual(real.below, value < 0, (function, x))
                self.assertEqual(real.whole, size.numerator // size.denominator, (function, x))
                self.assertEqual(real.cut, exact is None, (function, x))

    def test_held_powers(self):
        for function in (0, 1):
            large = value_of(function, 10 ** 30 << GRAIN_PLACES)
            self.assertGreaterEqual(large.whole, 1 << (CUT_PLACES + 128))
            small = value_of(function, -10 ** 30 << GRAIN_PLACES)
            self.assertEqual(small.below, False)
            self.assertLess(small.whole, 1 << (CUT_PLACES - 150))
            self.assertTrue(small.cut or small.whole > 0)


class Roots(unittest.TestCase):
    def test_cut_roots(self):
        for degree in (2, 3):
            for number_below in range(300):
                root = cut_root(number_below, degree)
                self.assertLessEqual(root ** degree, number_below)
                self.assertGreater((root + 1) ** degree, number_below)
            for root in (1, 2, 3, 2 ** 64 - 1, 2 ** 64, 3 ** 200):
                self.assertEqual(cut_root(root ** degree, degree), root)
                self.assertEqual(cut_root(root ** degree - 1, degree), root - 1)


if __name__ == "__main__":
    unittest.main()
