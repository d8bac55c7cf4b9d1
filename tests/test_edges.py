"""Promises 1 and 2 at the edges that the document names."""

import unittest
from fractions import Fraction

from lastbits.functions import apply
from tests.reference import GREATEST, INFINITE, SIGN, bits_of, told


class Edges(unittest.TestCase):
    def expect(self, the_format, function, bits, values, exact):
        """values: the bits by modes 0 to 3."""
        for mode in range(4):
            with self.subTest(the_format=the_format, function=function, mode=mode, bits=hex(bits)):
                answer = apply(the_format, mode, function, [bits])
                self.assertEqual(answer, [0, values[mode], exact])

    def expect_told(self, the_format, function, bits):
        answers = [apply(the_format, mode, function, [bits]) for mode in range(4)]
        expected = [[0] + answer for answer in told(the_format, function, bits)]
        self.assertEqual(answers, expected, (the_format, function, hex(bits)))


class Zeros(Edges):
    def test_zeros_handed_in(self):
        for the_format in range(2):
            one = bits_of(the_format, 1)
            for zero in (0, SIGN[the_format]):
                for function, value in ((0, one), (1, one), (4, 0), (5, one), (6, 0), (7, 0), (8, 0)):
                    self.expect(the_format, function, zero, [value] * 4, 1)

    def test_zeros_as_logarithms(self):
        for the_format in range(2):
            for function in (2, 3):
                self.expect(the_format, function, bits_of(the_format, 1), [0] * 4, 1)

    def test_below_zero_rounded_to_zero(self):
        for the_format in range(2):
            least = SIGN[the_format] + 1
            for function in (4, 6):
                self.expect(the_format, function, least, [least, least, SIGN[the_format], SIGN[the_format]], 0)

    def test_above_zero_rounded_to_zero(self):
        for the_format in range(2):
            for function in (4, 6):
                self.expect(the_format, function, 1, [1, 0, 1, 0], 0)


class SmallestAndGreatest(Edges):
    def test_smallest_numbers(self):
        self.expect(1, 0, 1, [0x3F800000, 0x3F800000, 0x3F800001, 0x3F800000], 0)
        self.expect(1, 1, 1, [0x3F800000, 0x3F800000, 0x3F800001, 0x3F800000], 0)
        self.expect(1, 2, 1, [0xC2CE8ED0, 0xC2CE8ED0, 0xC2CE8ECF, 0xC2CE8ECF], 0)
        self.expect(1, 3, 1, [0xC3150000] * 4, 1)
        self.expect(1, 5, 1, [0x3F800000, 0x3F7FFFFF, 0x3F800000, 0x3F7FFFFF], 0)
        self.expect(1, 7, 1, [0x1A3504F3, 0x1A3504F3, 0x1A3504F4, 0x1A3504F3], 0)
        self.expect(1, 8, 1, [0x26A14518, 0x26A14517, 0x26A14518, 0x26A14517], 0)
        self.expect(0, 2, 1, [0xCC29, 0xCC29, 0xCC28, 0xCC28], 0)
        self.expect(0, 3, 1, [0xCE00] * 4, 1)
        self.expect(0, 7, 1, [0x0C00] * 4, 1)
        self.expect(0, 8, 1, [0x1C00] * 4, 1)

    def test_smallest_numbers_below_zero(self):
        for function in (0, 1, 5):
            self.expect(1, function, 0x80000001, [0x3F800000, 0x3F7FFFFF, 0x3F800000, 0x3F7FFFFF], 0)
            self.expect(0, function, 0x8001, [0x3C00, 0x3BFF, 0x3C00, 0x3BFF], 0)
        self.expect(1, 8, 0x80000001, [0xA6A14518, 0xA6A14518, 0xA6A14517, 0xA6A14517], 0)
        self.expect(0, 8, 0x8001, [0x9C00] * 4, 1)

    def test_greatest_numbers(self):
        self.expect(1, 2, 0x7F7FFFFF, [0x42B17218, 0x42B17217, 0x42B17218, 0x42B17217], 0)
        self.expect(1, 3, 0x7F7FFFFF, [0x43000000, 0x42FFFFFF, 0x43000000, 0x42FFFFFF], 0)
        self.expect(1, 4, 0x7F7FFFFF, [0xBF0599B3, 0xBF0599B4, 0xBF0599B3, 0xBF0599B3], 0)
        self.expect(1, 5, 0x7F7FFFFF, [0x3F5A5F96, 0x3F5A5F96, 0x3F5A5F97, 0x3F5A5F96], 0)
        self.expect(1, 6, 0x7F7FFFFF, [0x3FC90FDB, 0x3FC90FDA, 0x3FC90FDB, 0x3FC90FDA], 0)
        self.expect(1, 7, 0x7F7FFFFF, [0x5F7FFFFF, 0x5F7FFFFF, 0x5F800000, 0x5F7FFFFF], 0)
        self.expect(1, 8, 0x7F7FFFFF, [0x54CB2FF5, 0x54CB2FF4, 0x54CB2FF5, 0x54CB2FF4], 0)
        self.expect(0, 2, 0x7BFF, [0x498C, 0x498B, 0x498C, 0x498B], 0)
        self.expect(0, 3, 0x7BFF, [0x4C00, 0x4BFF, 0x4C00, 0x4BFF], 0)
        self.expect(0, 6, 0x7BFF, [0x3E48, 0x3E48, 0x3E49, 0x3E48], 0)
        self.expect(0, 7, 0x7BFF, [0x5BFF, 0x5BFF, 0x5C00, 0x5BFF], 0)
        self.expect(0, 8, 0x7BFF, [0x510A, 0x5109, 0x510A, 0x5109], 0)

    def test_least_numbers(self):
        self.expect(1, 4, 0xFF7FFFFF, [0x3F0599B3, 0x3F0599B3, 0x3F0599B4, 0x3F0599B3], 0)
        self.expect(1, 5, 0xFF7FFFFF, [0x3F5A5F96, 0x3F5A5F96, 0x3F5A5F97, 0x3F5A5F96], 0)
        self.expect(1, 6, 0xFF7FFFFF, [0xBFC90FDB, 0xBFC90FDB, 0xBFC90FDA, 0xBFC90FDA], 0)
        self.expect(1, 8, 0xFF7FFFFF, [0xD4CB2FF5, 0xD4CB2FF5, 0xD4CB2FF4, 0xD4CB2FF4], 0)
        self.expect(0, 4, 0xFBFF, [0xBBCE, 0xBBCE, 0xBBCD, 0xBBCD], 0)
        self.expect(0, 6, 0xFBFF, [0xBE48, 0xBE49, 0xBE48, 0xBE48], 0)
        self.expect(0, 8, 0xFBFF, [0xD10A, 0xD10A, 0xD109, 0xD109], 0)

    def test_around_the_end_of_exponent_zero(self):
        for the_format, first in ((0, 0x0400), (1, 0x00800000)):
            for bits in (2, 3, first // 2, first - 1, first, first + 1):
                for function in range(9):
                    self.expect_told(the_format, function, bits)
                for function in (0, 1, 4, 5, 6, 8):
                    self.expect_told(the_format, function, SIGN[the_format] + bits)


class ExactValues(Edges):
    def test_two_to_whole_numbers(self):
        for the_format, least, most in ((0, -24, 15), (1, -149, 127)):
            for exponent in range(least, most + 1):
                bits = bits_of(the_format, exponent)
                value = bits_of(the_format, Fraction(2) ** exponent)
                self.expect(the_format, 1, bits, [value] * 4, 1)
                self.expect(the_format, 3, value, [bits] * 4, 1)

    def test_roots(self):
        for the_format, most in ((0, 5), (1, 40)):
            for root in range(1, most + 1):
                for scale in (Fraction(1), Fraction(1, 4), Fraction(8)):
                    value = bits_of(the_format, root * scale)
                    self.expect(the_format, 7, bits_of(the_format, (root * scale) ** 2), [value] * 4, 1)
                    cube = bits_of(the_format, (root * scale) ** 3)
                    self.expect(the_format, 8, cube, [value] * 4, 1)
                    self.expect(the_format, 8, cube + SIGN[the_format], [value + SIGN[the_format]] * 4, 1)

    def test_next_to_exact_values(self):
        for the_format in range(2):
            for value in (Fraction(1, 4), Fraction(1), Fraction(2), Fraction(4), Fraction(9), Fraction(27)):
                for bits in (bits_of(the_format, value) - 1, bits_of(the_format, value) + 1):
                    for function in range(9):
                        self.expect_told(the_format, function, bits)

    def test_only_one_has_a_rational_logarithm(self):
        self.expect(1, 2, 0x3F800001, [0x33FFFFFF, 0x33FFFFFF, 0x34000000, 0x33FFFFFF], 0)
        self.expect(1, 2, 0x3F7FFFFF, [0xB3800000, 0xB3800001, 0xB3800000, 0xB3800000], 0)
        self.expect_told(1, 2, bits_of(1, 2))


class Middles(Edges):
    def test_middle_between_zero_and_the_smallest(self):
        self.expect(1, 1, bits_of(1, -150), [0, 0, 1, 0], 0)
        self.expect(0, 1, bits_of(0, -25), [0, 0, 1, 0], 0)

    def test_next_to_that_middle(self):
        above = bits_of(1, -150) - 1
        below = bits_of(1, -150) + 1
        self.expect(1, 1, above, [1, 0, 1, 0], 0)
        self.expect(1, 1, below, [0, 0, 1, 0], 0)
        self.expect(0, 1, bits_of(0, -25) - 1, [1, 0, 1, 0], 0)
        self.expect(0, 1, bits_of(0, -25) + 1, [0, 0, 1, 0], 0)


class VeryLarge(Edges):
    def test_at_and_beyond_the_power_behind_the_greatest(self):
        for the_format, power in ((0, 16), (1, 128)):
            beyond = [INFINITE[the_format], GREATEST[the_format]] * 2
            for bits in (bits_of(the_format, power), bits_of(the_format, power) + 1, bits_of(the_format, power + 1),
                         bits_of(the_format, 1000), GREATEST[the_format]):
                self.expect(the_format, 1, bits, beyond, 0)
                self.expect(the_format, 0, bits, beyond, 0)

    def test_just_before_it(self):
        for the_format, power in ((0, 16), (1, 128)):
            self.expect_told(the_format, 1, bits_of(the_format, power) - 1)
            self.assertLess(apply(the_format, 2, 1, [bits_of(the_format, power) - 1])[1], INFINITE[the_format])

    def test_where_e_to_x_goes_beyond(self):
        self.expect_told(1, 0, 0x42B17217)
        self.assertLess(apply(1, 2, 0, [0x42B17217])[1], 0x7F800000)
        self.expect(1, 0, 0x42B17218, [0x7F800000, 0x7F7FFFFF] * 2, 0)
        self.expect_told(0, 0, 0x498B)
        self.expect(0, 0, 0x498C, [0x7C00, 0x7BFF] * 2, 0)


class VerySmall(Edges):
    def test_powers_of_very_small_value(self):
        for the_format in range(2):
            for exponent in (-200, -400, -1000, -2048):
                for function in (0, 1):
                    self.expect(the_format, function, bits_of(the_format, exponent), [0, 0, 1, 0], 0)
            for function in (0, 1):
                least = SIGN[the_format] + GREATEST[the_format]
                self.expect(the_format, function, least, [0, 0, 1, 0], 0)

    def test_where_e_to_x_becomes_small(self):
        for bits in (0xC2CE8ECF, 0xC2CE8ED0, 0xC2CFF1B4, 0xC2CFF1B5, 0xC2CFF1B6):
            self.expect_told(1, 0, bits)
        for exponent in range(-28, -5):
            self.expect_told(0, 0, bits_of(0, exponent))
        for exponent in range(-110, -80):
            self.expect_told(1, 0, bits_of(1, exponent))

    def test_values_of_very_small_numbers(self):
        for exponent in range(-149, -10, 9):
            bits = bits_of(1, Fraction(2) ** exponent)
            for function in (4, 6):
                self.expect(1, function, bits, [bits, bits - 1, bits, bits - 1], 0)
                below = SIGN[1] + bits
                self.expect(1, function, below, [below, below, below - 1, below - 1], 0)
            self.expect_told(1, 0, bits)
            self.expect_told(1, 1, bits)
            self.expect_told(1, 5, bits)

    def test_values_of_very_small_numbers_that_are_no_powers(self):
        for bits in (3, 5, 0x1234, 0x7FFFFF, 0x800001, 0x12345678, 0x20000003):
            for function in (4, 6):
                self.expect(1, function, bits, [bits, bits - 1, bits, bits - 1], 0)


class LargeAngles(Edges):
    def test_singles(self):
        # The first is the single that lies nearest to a multiple of a quarter turn.
        for bits in (0x6F79BE45, 0x7F000000, 0x7E800001, 0x60000000, 0x4B7FFFFF, 0x5F3759DF, 0x58123456):
            for sign in (0, SIGN[1]):
                self.expect_told(1, 4, sign + bits)
                self.expect_told(1, 5, sign + bits)

    def test_near_multiples_of_a_quarter_turn(self):
        for turns in range(1, 40, 3):
            near = bits_of(1, Fraction(round(turns * Fraction(314159265, 200000000) * 2 ** 16), 2 ** 16))
            for bits in range(near - 3, near + 4):
                self.expect_told(1, 4, bits)
                self.expect_told(1, 5, bits)

    def test_halves(self):
        for bits in (0x7BFF, 0x7BFE, 0x7000, 0x6A5B, 0xFBFF, 0xF800):
            self.expect_told(0, 4, bits)
            self.expect_told(0, 5, bits)

    def test_angles_of_large_tangents(self):
        for bits in (0x7F7FFFFF, 0x60000000, 0x4B000000, 0x40000000, 0x3F800001):
            for sign in (0, SIGN[1]):
                self.expect_told(1, 6, sign + bits)


class CubeRoots(Edges):
    def test_below_zero(self):
        for the_format in range(2):
            for value in (Fraction(-1), Fraction(-3), Fraction(-1, 8), Fraction(-1, 2), Fraction(-1000)):
                self.expect_told(the_format, 8, bits_of(the_format, value))


if __name__ == "__main__":
    unittest.main()
