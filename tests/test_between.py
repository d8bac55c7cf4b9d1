"""between: of each number the one next below it and the one next above it."""

import unittest
from fractions import Fraction

from lastbits.functions import apply, between
from tests.reference import GREATEST, INFINITE, SIGN, bits_of, number

# Format, a number, and the bits of the numbers next below and next above it.
KNOWN = (
    (0, 0x3C01, 0x3C00, 0x3C02),
    (0, 0x4248, 0x4247, 0x4249),
    (0, 0x0123, 0x0122, 0x0124),
    (0, 0xC248, 0xC249, 0xC247),
    (0, 0x8123, 0x8124, 0x8122),
    (1, 0x3F800001, 0x3F800000, 0x3F800002),
    (1, 0x40490FDB, 0x40490FDA, 0x40490FDC),
    (1, 0x00012345, 0x00012344, 0x00012346),
    (1, 0xC0490FDB, 0xC0490FDC, 0xC0490FDA),
    (1, 0x80012345, 0x80012346, 0x80012344),
)

ZEROS = (
    (0, 0x0000, 0x8001, 0x0001),
    (0, 0x8000, 0x8001, 0x0001),
    (1, 0x00000000, 0x80000001, 0x00000001),
    (1, 0x80000000, 0x80000001, 0x00000001),
)

# The neighbour that is 0 is exactly 0, so it is told as +0 on either side.
NEXT_TO_ZERO = (
    (0, 0x0001, 0x0000, 0x0002),
    (0, 0x8001, 0x8002, 0x0000),
    (1, 0x00000001, 0x00000000, 0x00000002),
    (1, 0x80000001, 0x80000002, 0x00000000),
)

WHERE_EXPONENTS_MEET = (
    (0, 0x03FF, 0x03FE, 0x0400),
    (0, 0x0400, 0x03FF, 0x0401),
    (0, 0x3BFF, 0x3BFE, 0x3C00),
    (0, 0x3C00, 0x3BFF, 0x3C01),
    (0, 0x83FF, 0x8400, 0x83FE),
    (0, 0x8400, 0x8401, 0x83FF),
    (0, 0xBBFF, 0xBC00, 0xBBFE),
    (0, 0xBC00, 0xBC01, 0xBBFF),
    (1, 0x007FFFFF, 0x007FFFFE, 0x00800000),
    (1, 0x00800000, 0x007FFFFF, 0x00800001),
    (1, 0x3F7FFFFF, 0x3F7FFFFE, 0x3F800000),
    (1, 0x3F800000, 0x3F7FFFFF, 0x3F800001),
    (1, 0x807FFFFF, 0x80800000, 0x807FFFFE),
    (1, 0x80800000, 0x80800001, 0x807FFFFF),
    (1, 0xBF7FFFFF, 0xBF800000, 0xBF7FFFFE),
    (1, 0xBF800000, 0xBF800001, 0xBF7FFFFF),
)

GREATEST_AND_LEAST = (
    (0, 0x7BFF, 0x7BFE, 0x7C00),
    (0, 0xFBFF, 0xFC00, 0xFBFE),
    (0, 0x7BFE, 0x7BFD, 0x7BFF),
    (0, 0xFBFE, 0xFBFF, 0xFBFD),
    (1, 0x7F7FFFFF, 0x7F7FFFFE, 0x7F800000),
    (1, 0xFF7FFFFF, 0xFF800000, 0xFF7FFFFE),
    (1, 0x7F7FFFFE, 0x7F7FFFFD, 0x7F7FFFFF),
    (1, 0xFF7FFFFE, 0xFF7FFFFF, 0xFF7FFFFD),
)


class Neighbours(unittest.TestCase):
    def expect(self, rows):
        for the_format, bits, below, above in rows:
            with self.subTest(the_format=the_format, bits=hex(bits)):
                self.assertEqual(between(the_format, [bits]), [0, below, above])

    def test_ordinary_numbers(self):
        self.expect(KNOWN)

    def test_zeros_handed_in(self):
        self.expect(ZEROS)

    def test_next_to_zero(self):
        self.expect(NEXT_TO_ZERO)

    def test_where_exponents_meet(self):
        self.expect(WHERE_EXPONENTS_MEET)

    def test_greatest_and_least(self):
        self.expect(GREATEST_AND_LEAST)


class Rows(unittest.TestCase):
    def test_no_number(self):
        for the_format in range(2):
            self.assertEqual(between(the_format, []), [0])

    def test_numbers_in_their_order(self):
        self.assertEqual(
            between(1, [0x40490FDB, 0x80000000, 0xBF800000, 0x7F7FFFFF, 0x40490FDB]),
            [0, 0x40490FDA, 0x40490FDC, 0x80000001, 1, 0xBF800001, 0xBF7FFFFF, 0x7F7FFFFE, 0x7F800000,
             0x40490FDA, 0x40490FDC])

    def test_eight_numbers(self):
        self.assertEqual(
            between(0, [0x3C00, 0xBC00, 0, 0x8000, 1, 0x8001, 0x7BFF, 0xFBFF]),
            [0, 0x3BFF, 0x3C01, 0xBC01, 0xBBFF, 0x8001, 1, 0x8001, 1, 0, 2, 0x8002, 0, 0x7BFE, 0x7C00,
             0xFC00, 0xFBFE])

    def test_whole_numbers_are_told(self):
        for the_format in range(2):
            answer = between(the_format, [0, 1, SIGN[the_format] + 1, GREATEST[the_format]])
            self.assertIs(type(answer), list)
            self.assertEqual([type(word) for word in answer], [int] * 9)


class ByValue(unittest.TestCase):
    def test_every_half(self):
        sizes = range(INFINITE[0])
        finite = list(sizes) + [SIGN[0] + bits for bits in sizes if bits > 0]
        ordered = [0xFC00] + sorted(finite, key=lambda bits: number(0, bits)) + [0x7C00]
        for place in range(1, len(ordered) - 1):
            expected = [0, ordered[place - 1], ordered[place + 1]]
            self.assertEqual(between(0, [ordered[place]]), expected, hex(ordered[place]))

    def step_away_from_zero(self, bits):
        """How far the next single lies, by what e means."""
        exponent = (bits >> 23) & 255
        return Fraction(2) ** (max(exponent, 1) - 127 - 23)

    def test_singles(self):
        for bits in range(12345, INFINITE[1], 654321):
            x = number(1, bits)
            above = bits_of(1, x + self.step_away_from_zero(bits))
            self.assertEqual(between(1, [bits])[2], above, hex(bits))
            self.assertEqual(between(1, [above])[1], bits, hex(above))
            below = bits_of(1, -x - self.step_away_from_zero(bits))
            self.assertEqual(between(1, [SIGN[1] + bits])[1], below, hex(SIGN[1] + bits))
            self.assertEqual(between(1, [below])[2], SIGN[1] + bits, hex(below))

    def test_lower_and_upper_values_are_neighbours(self):
        for the_format in range(2):
            row = [bits_of(the_format, Fraction(eighths, 8)) for eighths in (3, 5, 22, 26)]
            for function in range(9):
                lower = apply(the_format, 1, function, row)
                upper = apply(the_format, 2, function, row)
                self.assertEqual(lower[2::2], [0] * 4)
                self.assertEqual(between(the_format, lower[1::2])[2::2], upper[1::2])
                self.assertEqual(between(the_format, upper[1::2])[1::2], lower[1::2])


if __name__ == "__main__":
    unittest.main()
