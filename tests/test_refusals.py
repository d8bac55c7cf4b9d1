"""Promise 3: refused is just what is told."""

import unittest

from lastbits.functions import apply, between

MOST = 4294967295
ONE = (0x3C00, 0x3F800000)
MINUS_ONE = (0xBC00, 0xBF800000)
NO_NUMBERS = (
    (0x7C00, 0xFC00, 0x7C01, 0x7FFF, 0xFC01, 0xFFFF, 0x10000, 0x13C00, 0x3F800000, MOST),
    (0x7F800000, 0xFF800000, 0x7F800001, 0x7FC00000, 0x7FFFFFFF, 0xFF800001, MOST),
)


class FirstRefusal(unittest.TestCase):
    def test_format(self):
        for the_format in (2, 3, 32, MOST):
            self.assertEqual(apply(the_format, 0, 0, []), [-1])
            self.assertEqual(apply(the_format, 0, 0, [0]), [-1])

    def test_mode(self):
        for mode in (4, 5, MOST):
            self.assertEqual(apply(0, mode, 0, []), [-1])
            self.assertEqual(apply(1, mode, 0, [0]), [-1])

    def test_function(self):
        for function in (9, 10, MOST):
            self.assertEqual(apply(0, 0, function, []), [-1])
            self.assertEqual(apply(1, 0, function, [0]), [-1])

    def test_numbers(self):
        for the_format in range(2):
            self.assertEqual(apply(the_format, 0, 0, [0] * 9), [-1])
            self.assertEqual(apply(the_format, 0, 0, [0] * 10), [-1])
            self.assertEqual(apply(the_format, 0, 4, [0] * 8), [0] + [0, 1] * 8)

    def test_several_at_once(self):
        self.assertEqual(apply(2, 4, 9, [0] * 9), [-1])


class SecondRefusal(unittest.TestCase):
    def test_each_cause(self):
        for the_format in range(2):
            for bits in NO_NUMBERS[the_format]:
                for function in range(9):
                    for mode in range(4):
                        self.assertEqual(apply(the_format, mode, function, [bits]), [-2, 0], hex(bits))

    def test_first_place(self):
        for the_format in range(2):
            for bits in NO_NUMBERS[the_format]:
                for place in range(8):
                    row = [ONE[the_format]] * place + [bits] * (8 - place)
                    self.assertEqual(apply(the_format, 0, 2, row), [-2, place])

    def test_greatest_and_least_are_numbers(self):
        self.assertEqual(apply(0, 0, 6, [0x7BFF, 0xFBFF])[0], 0)
        self.assertEqual(apply(1, 0, 6, [0x7F7FFFFF, 0xFF7FFFFF])[0], 0)


class ThirdRefusal(unittest.TestCase):
    def test_logarithms(self):
        for the_format, sign in ((0, 0x8000), (1, 0x80000000)):
            for function in (2, 3):
                for mode in range(4):
                    for bits in (0, sign, sign + 1, MINUS_ONE[the_format], sign + ONE[the_format] * 2 - 1):
                        self.assertEqual(apply(the_format, mode, function, [bits]), [-3, 0])
                    self.assertEqual(apply(the_format, mode, function, [1])[0], 0)

    def test_square_root(self):
        for the_format, sign in ((0, 0x8000), (1, 0x80000000)):
            for mode in range(4):
                for bits in (sign + 1, MINUS_ONE[the_format]):
                    self.assertEqual(apply(the_format, mode, 7, [bits]), [-3, 0])
                self.assertEqual(apply(the_format, mode, 7, [0, sign]), [0, 0, 1, 0, 1])

    def test_others_are_told_of_all(self):
        for the_format, sign in ((0, 0x8000), (1, 0x80000000)):
            for function in (0, 1, 4, 5, 6, 8):
                row = [0, sign, 1, sign + 1, ONE[the_format], MINUS_ONE[the_format]]
                self.assertEqual(apply(the_format, 0, function, row)[0], 0)

    def test_first_place(self):
        for the_format in range(2):
            for function in (2, 3, 7):
                for place in range(8):
                    row = [ONE[the_format]] * place + [MINUS_ONE[the_format]] * (8 - place)
                    self.assertEqual(apply(the_format, 0, function, row), [-3, place])


class Order(unittest.TestCase):
    def test_first_before_second(self):
        self.assertEqual(apply(0, 0, 2, [0x7C00] * 9), [-1])
        self.assertEqual(apply(0, 4, 2, [0x7C00]), [-1])
        self.assertEqual(apply(1, 0, 9, [0x7F800000]), [-1])
        self.assertEqual(apply(2, 0, 0, [MOST]), [-1])

    def test_first_before_third(self):
        self.assertEqual(apply(0, 4, 2, [0]), [-1])
        self.assertEqual(apply(1, 0, 2, [0] * 9), [-1])

    def test_second_of_all_before_third(self):
        for the_format in range(2):
            for function in (2, 3, 7):
                row = [MINUS_ONE[the_format], ONE[the_format], MOST, MINUS_ONE[the_format]]
                self.assertEqual(apply(the_format, 0, function, row), [-2, 2])

    def test_a_refusal_tells_nothing_else(self):
        self.assertEqual(apply(1, 0, 2, [ONE[1], ONE[1], 0]), [-3, 2])


class Between(unittest.TestCase):
    def test_format(self):
        for the_format in (2, 3, 32, MOST):
            self.assertEqual(between(the_format, []), [-1])
            self.assertEqual(between(the_format, [0]), [-1])

    def test_numbers(self):
        for the_format in range(2):
            self.assertEqual(between(the_format, [0] * 9), [-1])
            self.assertEqual(between(the_format, [0] * 10), [-1])
            self.assertEqual(len(between(the_format, [0] * 8)), 17)

    def test_no_number_of_the_format(self):
        for the_format in range(2):
            for bits in NO_NUMBERS[the_format]:
                self.assertEqual(between(the_format, [bits]), [-2, 0], hex(bits))

    def test_first_place(self):
        for the_format in range(2):
            for bits in NO_NUMBERS[the_format]:
                for place in range(8):
                    row = [ONE[the_format]] * place + [bits] * (8 - place)
                    self.assertEqual(between(the_format, row), [-2, place])
                    alone = [MINUS_ONE[the_format]] * place + [bits] + [0] * (7 - place)
                    self.assertEqual(between(the_format, alone), [-2, place])

    def test_first_before_second(self):
        self.assertEqual(between(2, [MOST]), [-1])
        self.assertEqual(between(2, [0x7C00] * 9), [-1])
        for the_format in range(2):
            self.assertEqual(between(the_format, [NO_NUMBERS[the_format][0]] * 9), [-1])
            self.assertEqual(between(the_format, [0] * 9 + [MOST]), [-1])

    def test_no_third(self):
        for the_format, sign in ((0, 0x8000), (1, 0x80000000)):
            row = [0, sign, sign + 1, MINUS_ONE[the_format]]
            self.assertEqual(between(the_format, row)[0], 0)


if __name__ == "__main__":
    unittest.main()
