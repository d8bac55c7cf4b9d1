"""Promise 4, and that what is handed in is not changed."""

import unittest

from lastbits.functions import apply

CALLS = (
    (1, 0, 4, (0x3F800000, 1, 0x7F7FFFFF)),
    (1, 3, 2, (0x40000000, 0x3F800000)),
    (1, 1, 2, (0x40000000, 0)),
    (0, 2, 8, (0xC000, 0x8000, 0x3C00)),
    (0, 2, 8, (0xC000, 0x7C00, 0x3C00)),
    (1, 0, 0, (0x80000001, 0xC47A0000)),
    (0, 1, 5, ()),
    (2, 0, 0, (1, 2)),
    (1, 2, 7, (0x40000000,) * 9),
    (0, 0, 6, (0x3C00,) * 8),
)


def asked(call):
    return apply(call[0], call[1], call[2], list(call[3]))


class Again(unittest.TestCase):
    def test_same_again(self):
        first = [asked(call) for call in CALLS]
        for call, answer in zip(CALLS, first):
            for between in CALLS:
                asked(between)
                self.assertEqual(asked(call), answer)
        self.assertEqual([asked(call) for call in reversed(CALLS)], list(reversed(first)))

    def test_an_answer_is_the_askers_own(self):
        for call in CALLS:
            answer = asked(call)
            kept = list(answer)
            answer.append(7)
            answer[0] = 5
            self.assertEqual(asked(call), kept)

    def test_numbers_are_not_changed(self):
        for the_format, mode, function, numbers in CALLS:
            row = list(numbers)
            answer = apply(the_format, mode, function, row)
            self.assertEqual(row, list(numbers))
            self.assertIsNot(answer, row)


if __name__ == "__main__":
    unittest.main()
