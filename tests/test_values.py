"""Promises 1 and 2 on ordinary numbers: the value rounded once, and whether it is exact."""

import unittest

from lastbits.functions import apply
from tests.reference import INFINITE, SIGN, told

# Format, function, a number, its value's bits by modes 0 to 3, and whether they are exact.
KNOWN = (
    (0, 0, 0x3C00, (0x4170, 0x416F, 0x4170, 0x416F), 0),
    (0, 0, 0xC166, (0x2C4E, 0x2C4D, 0x2C4E, 0x2C4D), 0),
    (0, 1, 0x34CD, (0x3CED, 0x3CEC, 0x3CED, 0x3CEC), 0),
    (0, 1, 0xC200, (0x3000, 0x3000, 0x3000, 0x3000), 1),
    (0, 2, 0x4900, (0x409B, 0x409A, 0x409B, 0x409A), 0),
    (0, 2, 0x3266, (0xBE70, 0xBE71, 0xBE70, 0xBE70), 0),
    (0, 3, 0x4900, (0x42A5, 0x42A4, 0x42A5, 0x42A4), 0),
    (0, 3, 0x3000, (0xC200, 0xC200, 0xC200, 0xC200), 1),
    (0, 4, 0x3C00, (0x3ABB, 0x3ABB, 0x3ABC, 0x3ABB), 0),
    (0, 4, 0xD640, (0x380D, 0x380D, 0x380E, 0x380D), 0),
    (0, 5, 0x4200, (0xBBEC, 0xBBEC, 0xBBEB, 0xBBEB), 0),
    (0, 5, 0xB800, (0x3B05, 0x3B05, 0x3B06, 0x3B05), 0),
    (0, 6, 0x3C00, (0x3A48, 0x3A48, 0x3A49, 0x3A48), 0),
    (0, 6, 0xC780, (0xBDC1, 0xBDC1, 0xBDC0, 0xBDC0), 0),
    (0, 7, 0x4000, (0x3DA8, 0x3DA8, 0x3DA9, 0x3DA8), 0),
    (0, 7, 0x4080, (0x3E00, 0x3E00, 0x3E00, 0x3E00), 1),
    (0, 8, 0xC000, (0xBD0A, 0xBD0B, 0xBD0A, 0xBD0A), 0),
    (0, 8, 0xCEC0, (0xC200, 0xC200, 0xC200, 0xC200), 1),
    (1, 0, 0x3F800000, (0x402DF854, 0x402DF854, 0x402DF855, 0x402DF854), 0),
    (1, 0, 0xC02CCCCD, (0x3D89A30B, 0x3D89A30A, 0x3D89A30B, 0x3D89A30A), 0),
    (1, 1, 0x3E99999A, (0x3F9D9624, 0x3F9D9623, 0x3F9D9624, 0x3F9D9623), 0),
    (1, 1, 0xC0400000, (0x3E000000, 0x3E000000, 0x3E000000, 0x3E000000), 1),
    (1, 2, 0x41200000, (0x40135D8E, 0x40135D8D, 0x40135D8E, 0x40135D8D), 0),
    (1, 2, 0x3E4CCCCD, (0xBFCE0210, 0xBFCE0210, 0xBFCE020F, 0xBFCE020F), 0),
    (1, 3, 0x41200000, (0x40549A78, 0x40549A78, 0x40549A79, 0x40549A78), 0),
    (1, 3, 0x3E000000, (0xC0400000, 0xC0400000, 0xC0400000, 0xC0400000), 1),
    (1, 4, 0x3F800000, (0x3F576AA4, 0x3F576AA4, 0x3F576AA5, 0x3F576AA4), 0),
    (1, 4, 0xC2C80000, (0x3F01A12E, 0x3F01A12D, 0x3F01A12E, 0x3F01A12D), 0),
    (1, 5, 0x40400000, (0xBF7D7026, 0xBF7D7026, 0xBF7D7025, 0xBF7D7025), 0),
    (1, 5, 0xBF000000, (0x3F60A940, 0x3F60A940, 0x3F60A941, 0x3F60A940), 0),
    (1, 6, 0x3F800000, (0x3F490FDB, 0x3F490FDA, 0x3F490FDB, 0x3F490FDA), 0),
    (1, 6, 0xC0F00000, (0xBFB81868, 0xBFB81868, 0xBFB81867, 0xBFB81867), 0),
    (1, 7, 0x40000000, (0x3FB504F3, 0x3FB504F3, 0x3FB504F4, 0x3FB504F3), 0),
    (1, 7, 0x40100000, (0x3FC00000, 0x3FC00000, 0x3FC00000, 0x3FC00000), 1),
    (1, 8, 0xC0000000, (0xBFA14518, 0xBFA14518, 0xBFA14517, 0xBFA14517), 0),
    (1, 8, 0xC1D80000, (0xC0400000, 0xC0400000, 0xC0400000, 0xC0400000), 1),
)


def is_handed_over(the_format, function, bits):
    """Whether neither -2 nor -3 is due of the number."""
    size = bits % SIGN[the_format]
    if size >= INFINITE[the_format]:
        return False
    if function in (2, 3):
        return size > 0 and bits == size
    return function != 7 or size == 0 or bits == size


class KnownValues(unittest.TestCase):
    def test_reference(self):
        for the_format, function, bits, values, exact in KNOWN:
            with self.subTest(the_format=the_format, function=function, bits=hex(bits)):
                self.assertEqual(told(the_format, function, bits), [[value, exact] for value in values])

    def test_known_values(self):
        for the_format, function, bits, values, exact in KNOWN:
            for mode in range(4):
                with self.subTest(the_format=the_format, function=function, mode=mode, bits=hex(bits)):
                    self.assertEqual(apply(the_format, mode, function, [bits]), [0, values[mode], exact])


class Rows(unittest.TestCase):
    def test_no_number(self):
        for the_format in range(2):
            for mode in range(4):
                for function in range(9):
                    self.assertEqual(apply(the_format, mode, function, []), [0])

    def test_numbers_in_their_order(self):
        self.assertEqual(
            apply(1, 0, 7, [0x40000000, 0x40100000, 0, 0x3F800000, 0x40000000]),
            [0, 0x3FB504F3, 0, 0x3FC00000, 1, 0, 1, 0x3F800000, 1, 0x3FB504F3, 0])

    def test_eight_numbers(self):
        row = [0x3C00, 0xC200, 0x4200, 0, 0x8000, 0x4000, 0xBC00, 0x3C00]
        alone = [apply(0, 2, 1, [bits])[1:] for bits in row]
        self.assertEqual(apply(0, 2, 1, row), [0] + [word for answer in alone for word in answer])

    def test_whole_numbers_are_told(self):
        for function in range(9):
            answer = apply(1, 0, function, [0x3F800000, 0x40800000, 0x40000001])
            self.assertEqual([type(word) for word in answer], [int] * 7)
            self.assertIs(type(answer), list)


class Spread(unittest.TestCase):
    def check(self, the_format, function, numbers):
        for bits in numbers:
            if is_handed_over(the_format, function, bits):
                expected = told(the_format, function, bits)
                answers = [apply(the_format, mode, function, [bits]) for mode in range(4)]
                if answers != [[0] + answer for answer in expected]:
                    self.fail(f"format {the_format}, function {function}, {bits:#x}: {answers}, not {expected}")

    def test_halves(self):
        for function in range(9):
            self.check(0, function, range(function, 1 << 16, 509))

    def test_singles(self):
        for function in range(9):
            self.check(1, function, range(function * 1000003, 1 << 32, 45678901))

    def test_singles_of_ordinary_size(self):
        for function in range(9):
            self.check(1, function, range(0x3B000000 + function, 0x43800000, 2345678))
            self.check(1, function, range(0xBB000000 + function, 0xC3800000, 2345678))


if __name__ == "__main__":
    unittest.main()
