"""What holds for all fourteen calls together."""

import builtins
import contextlib
import copy
import inspect
import io
import sys
import unittest
from unittest import mock

from damagesums import check, states
from tests.reference import EMPTY, FARTHEST, KINDS, LONG, STATES, Sealed, TimedTest
from tests.test_form import INTERFACE

TEXT = list(b"nobody wants to read them again")


def calls_of(k):
    """Each of the calls, of this kind: what is answered and what is refused."""
    s = STATES[k][-1]
    return [
        ("begin", k),
        ("add", k, s, TEXT), ("add", k, s, []), ("add", k, 2 ** 64 - 1, TEXT), ("add", k, s, [1] * 65537),
        ("sum_of", k, s), ("sum_of", k, 2 ** 64 - 1),
        ("of", k, TEXT), ("of", k, []), ("of", k, [1] * 65537),
        ("joined", k, EMPTY[k], EMPTY[k], 6), ("joined", k, s, s, 7), ("joined", k, s, s, FARTHEST + 1),
        ("zeros", k, s, FARTHEST), ("zeros", k, s, FARTHEST + 1),
        ("changed", k, s, 4, TEXT, TEXT[::-1]), ("changed", k, s, 4, [1, 2], [3]),
        ("put", k, 3, TEXT), ("put", k, -1, TEXT), ("put", k, 0, [1]),
        ("right", k, 3, TEXT), ("right", k, 30, TEXT),
        ("filled", k, s, 17), ("filled", k, s, 2 ** 32),
        ("pieces", k, [TEXT, [], [1], TEXT[:7]]), ("pieces", k, []), ("pieces", k, [[1]] * 65),
        ("copied", k, s, 3, 7, TEXT), ("copied", k, s, 0, 0, []), ("copied", k, s, -1, 7, TEXT),
        ("found", k, 0, 0x82F63B78, 9), ("found", k, 0, 0, 9), ("found", k, 0, 0, 65537),
        ("table", k, 255), ("table", k, 256),
    ]


CALLS = [call for k in KINDS for call in calls_of(k)] + [
    (call[0], k) + call[2:] for k in (-1, 4) for call in calls_of(0)
]
LONGEST_CALLS = [
    call for k in KINDS for call in (
        ("add", k, EMPTY[k], LONG), ("of", k, LONG), ("joined", k, EMPTY[k], EMPTY[k], FARTHEST),
        ("zeros", k, EMPTY[k], FARTHEST), ("changed", k, EMPTY[k], FARTHEST, LONG, LONG), ("put", k, 0, LONG),
        ("right", k, 0, LONG), ("filled", k, 0, 17), ("pieces", k, [LONG[i:i + 1024] for i in range(0, 65536, 1024)]),
        ("copied", k, EMPTY[k], 0, 65536, LONG), ("found", k, 0, 0, 65536), ("table", k, 255),
    )
]


def sealed(value):
    if isinstance(value, list):
        return Sealed([sealed(part) for part in value])
    return value


def made(call):
    return getattr(check, call[0])(*[copy.deepcopy(value) for value in call[1:]])


def forbidden(*values, **named):
    raise AssertionError("the program reads or prints")


class WholeProgramTest(TimedTest):
    def test_all_fourteen_are_called(self):
        self.assertEqual(len(INTERFACE), 14)
        self.assertEqual({call[0] for call in CALLS}, set(INTERFACE))

    def test_what_is_handed_in_is_as_it_was(self):
        for call in CALLS:
            with self.subTest(call=call[:3]):
                handed = [sealed(value) for value in call[1:]]
                getattr(check, call[0])(*handed)
                self.assertEqual(handed, list(call[1:]))

    def test_answers_hold_nothing_of_what_is_handed_in(self):
        for call in CALLS:
            handed = copy.deepcopy(call[1:])
            answer = getattr(check, call[0])(*handed)
            answer[:] = [7]
            with self.subTest(call=call[:3]):
                self.assertEqual(handed, call[1:])

    def test_same_answers_in_any_order(self):
        first = [made(call) for call in CALLS]
        kept = copy.deepcopy(first)
        for answer in first:
            answer.append(7)
        backwards = [made(call) for call in reversed(CALLS)]
        self.assertEqual(backwards[::-1], kept)
        for start in range(7):
            for place in range(start, len(CALLS), 7):
                with self.subTest(call=CALLS[place][:3]):
                    self.assertEqual(made(CALLS[place]), kept[place])

    def test_plain_lists_of_whole_numbers(self):
        for call in CALLS:
            answer = made(call)
            with self.subTest(call=call[:3]):
                self.assertIs(type(answer), list)
                self.assertEqual({type(number) for number in answer}, {int})

    def test_a_refusal_stands_alone(self):
        for call in CALLS:
            answer = made(call)
            with self.subTest(call=call[:3]):
                if answer[0] < 0:
                    self.assertIn(answer, [[-1], [-2]] if call[0] == "found" else [[-1]])

    def test_nothing_is_kept_in_the_modules(self):
        def tops():
            return [
                {name: value for name, value in vars(module).items() if not name.startswith("__")}
                for module in (check, states)
            ]
        before = copy.deepcopy(tops())
        for call in CALLS:
            made(call)
        self.assertEqual(tops(), before)

    def test_nothing_is_read_printed_or_imported(self):
        out, err = io.StringIO(), io.StringIO()
        loaded = set(sys.modules)
        with contextlib.redirect_stdout(out), contextlib.redirect_stderr(err), \
                mock.patch.object(builtins, "open", forbidden), mock.patch.object(builtins, "input", forbidden):
            for call in CALLS:
                made(call)
        self.assertEqual(out.getvalue() + err.getvalue(), "")
        self.assertEqual(set(sys.modules), loaded)

    def test_long_inputs_are_gone_through_by_loops(self):
        limit = sys.getrecursionlimit()
        self.addCleanup(sys.setrecursionlimit, limit)
        for call in LONGEST_CALLS:
            function = getattr(check, call[0])
            sys.setrecursionlimit(len(inspect.stack(0)) + 30)
            try:
                answer = function(*call[1:])
            finally:
                sys.setrecursionlimit(limit)
            with self.subTest(name=call[0], k=call[1]):
                self.assertIs(type(answer), list)


if __name__ == "__main__":
    unittest.main()
