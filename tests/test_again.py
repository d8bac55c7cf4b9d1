"""Promise 4, and that what is handed in is not changed."""

import unittest

from lastbits.functions import apply, between

# Calls of apply, and calls of between: these have two arguments.
CALLS = (
    (1, 0, 4, (0x3F800000, 1, 0x7F7FFFFF)),
    (1, 3, 2, (0x40000000, 0x3F800000)),
    (1, 1, 2, (0x40000000, 0)),
    (0, 2, 8, (0xC000, 0x8000, 0x3C00)),
    (0, 2, 8, (0xC000, 0x7C00, 0x3C00)),
    (1, 0, 0, (0x80000001, 0xC47A0000)),
    (0, 1, 5, ()),
    (2, 0, 0, (1, 2)),
    (1, 2, 7, (0x40000000,) * 9),
    (0, 0, 6, (0x3C00,) * 8),
    (1, (0x3F800000, 1, 0x7F7FFFFF)),
    (0, (0xC000, 0x8000, 0x3C00, 0xFBFF)),
    (1, (0xC000, 0x8000, 0x3C00, 0xFBFF)),
    (0, (0xC000, 0x7C00, 0x3C00)),
    (0, ()),
    (2, (1, 2)),
    (1, (0x40000000,) * 9),
)


def refuse_change(row, *arguments):
    raise AssertionError("what is handed in was changed")


class GuardedRow(list):
    """A list that may only be read."""

    __setitem__ = __delitem__ = __iadd__ = __imul__ = refuse_change
    append = clear = extend = insert = pop = remove = reverse = sort = refuse_change


def asked_with(call, row):
    """What is answered to the call, the row standing for its numbers."""
    if len(call) == 2:
        return between(call[0], row)
    return apply(call[0], call[1], call[2], row)


def asked(call):
    return asked_with(call, list(call[-1]))


class Again(unittest.TestCase):
    def test_same_again(self):
        first = [asked(call) for call in CALLS]
        for call, answer in zip(CALLS, first):
            for other in CALLS:
                asked(other)
                self.assertEqual(asked(call), answer)
        self.assertEqual([asked(call) for call in reversed(CALLS)], list(reversed(first)))

    def test_an_answer_is_the_askers_own(self):
        for call in CALLS:
            answer = asked(call)
            kept = list(answer)
            answer.append(7)
            answer[0] = 5
            self.assertEqual(asked(call), kept)

    def test_numbers_are_not_changed_for_a_while_either(self):
        for call in CALLS:
            self.assertEqual(asked_with(call, GuardedRow(call[-1])), asked(call))

    def test_numbers_are_not_changed(self):
        for call in CALLS:
            row = list(call[-1])
            answer = asked_with(call, row)
            self.assertEqual(row, list(call[-1]))
            self.assertIsNot(answer, row)


if __name__ == "__main__":
    unittest.main()
