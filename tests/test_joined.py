import unittest

from damagesums.check import add, begin, joined, zeros
from tests.reference import (
    EMPTY, FAR_LENGTHS, FARTHEST, KINDS, LENGTHS, LONG, NO_KINDS, NO_STATES, STATES, TEXTS, TOO_FAR, TimedTest,
    both, fits, state,
)


class KnownValuesTest(TimedTest):
    def test_crc_32c(self):
        a = add(0, 0, list(b"12345"))[1]
        b = add(0, 0, list(b"6789"))[1]
        self.assertEqual(joined(0, a, b, 4), [0, 0xE3069283])

    def test_crc_64(self):
        a = add(1, 0, list(b"12345"))[1]
        b = add(1, 0, list(b"6789"))[1]
        self.assertEqual(joined(1, a, b, 4), [0, 0x995DC9BBDF1939FA])

    def test_ones_complement(self):
        self.assertEqual(joined(2, 0x0102, 0x0304, 2), [0, 0x0406])
        self.assertEqual(joined(2, 0x0102, 65536 + 0x0300, 1), [0, 65536 + 0x0402])
        self.assertEqual(joined(2, 65536 + 0x0100, 0x0203, 2), [0, 65536 + 0x0402])
        self.assertEqual(joined(2, 65536 + 0x0100, 65536 + 0x0200, 1), [0, 0x0102])

    def test_ones_complement_zero_and_65535(self):
        self.assertEqual(joined(2, 0, 0, 0), [0, 0])
        self.assertEqual(joined(2, 0, 0, 2), [0, 0])
        self.assertEqual(joined(2, 0, 65536, 1), [0, 65536])
        self.assertEqual(joined(2, 65536, 0, 2), [0, 65536])
        self.assertEqual(joined(2, 65536, 65536, 1), [0, 0])
        self.assertEqual(joined(2, 65535, 0, 2), [0, 65535])
        self.assertEqual(joined(2, 0, 65535, 2), [0, 65535])
        self.assertEqual(joined(2, 65535, 65535, 2), [0, 65535])
        self.assertEqual(joined(2, 65535, 65536, 1), [0, 131071])
        self.assertEqual(joined(2, 65536, 65535, 2), [0, 131071])
        self.assertEqual(joined(2, 131071, 131071, 3), [0, 65535])
        self.assertEqual(joined(2, 65534, 1, 2), [0, 65535])
        self.assertEqual(joined(2, 65534, 2, 2), [0, 1])
        self.assertEqual(joined(2, 65536 + 65535 - 256, 1, 2), [0, 131071])

    def test_adler_32(self):
        a = add(3, 1, list(b"Wiki"))[1]
        b = add(3, 1, list(b"pedia"))[1]
        self.assertEqual(joined(3, a, b, 5), [0, 0x11E60398])

    def test_adler_32_ends(self):
        # A lower number of 0: the 1 taken off must not make it less than 0.
        self.assertEqual(joined(3, 0, 0, 0), [0, 65520])
        self.assertEqual(joined(3, 0, 0, 1), [0, 65536 * 65520 + 65520])
        self.assertEqual(joined(3, 65520, 65520, 1), [0, 65536 * 65519 + 65518])
        top = 65536 * 65520 + 65520
        self.assertEqual(joined(3, top, top, 0), [0, 65536 * 65519 + 65518])


class JoinedTest(TimedTest):
    def test_texts_one_behind_the_other(self):
        for k in KINDS:
            for first in TEXTS:
                for second in TEXTS:
                    with self.subTest(k=k, first=first, second=second):
                        a = state(k, EMPTY[k], first)
                        b = state(k, EMPTY[k], second)
                        expected = state(k, EMPTY[k], first + second)
                        self.assertEqual(joined(k, a, b, len(second)), [0, expected])

    def test_text_behind_any_state(self):
        for k in KINDS:
            for a in STATES[k]:
                for text in TEXTS:
                    with self.subTest(k=k, a=a, text=text):
                        b = add(k, begin(k)[1], list(text))[1]
                        self.assertEqual(joined(k, a, b, len(text)), add(k, a, list(text)))

    def test_no_bytes_behind(self):
        for k in KINDS:
            for a in STATES[k]:
                with self.subTest(k=k, a=a):
                    self.assertEqual(joined(k, a, EMPTY[k], 0), [0, a])

    def test_no_bytes_ahead(self):
        for k in KINDS:
            for b in STATES[k]:
                for n in (65536, 65537, FARTHEST - 1, FARTHEST):
                    if fits(k, b, n):
                        with self.subTest(k=k, b=b, n=n):
                            self.assertEqual(joined(k, EMPTY[k], b, n), [0, b])

    def test_longest_texts(self):
        for k in KINDS:
            for length in (65535, 65536):
                with self.subTest(k=k, length=length):
                    a = state(k, EMPTY[k], LONG)
                    b = state(k, EMPTY[k], LONG[:length])
                    self.assertEqual(joined(k, a, b, length), [0, state(k, a, LONG[:length])])

    def test_states_that_no_text_of_n_bytes_has(self):
        for k in KINDS:
            for a in STATES[k]:
                for b in STATES[k]:
                    for n in LENGTHS:
                        if fits(k, b, n):
                            with self.subTest(k=k, a=a, b=b, n=n):
                                self.assertEqual(joined(k, a, b, n), [0, both(k, a, b, n)])

    def test_other_states_behind_no_bytes_by_bits(self):
        self.assertEqual(joined(0, 0x12345678, 0x0F0F0F0F, 0), [0, 0x1D3B5977])
        self.assertEqual(joined(1, 2 ** 63, 1, 0), [0, 2 ** 63 + 1])


class FarJoinedTest(TimedTest):
    def test_far_lengths(self):
        for k in KINDS:
            for a in STATES[k]:
                for b in STATES[k]:
                    for n in FAR_LENGTHS:
                        if fits(k, b, n):
                            with self.subTest(k=k, a=a, b=b, n=n):
                                self.assertEqual(joined(k, a, b, n), [0, both(k, a, b, n)])

    def test_far_bytes_of_0(self):
        for k in KINDS:
            b = zeros(k, begin(k)[1], FARTHEST)[1]
            for a in STATES[k]:
                with self.subTest(k=k, a=a):
                    self.assertEqual(joined(k, a, b, FARTHEST), zeros(k, a, FARTHEST))

    def test_three_texts_in_either_order(self):
        for k in KINDS:
            a, b, c = [state(k, EMPTY[k], text) for text in ([9, 8, 7], [6] * 4, [5] * 2)]
            n = FARTHEST - 4
            left = joined(k, joined(k, a, b, 4)[1], c, n)
            right = joined(k, a, joined(k, b, c, n)[1], FARTHEST)
            with self.subTest(k=k):
                self.assertEqual(left, right)


class JoinedRefusesTest(TimedTest):
    def test_no_kind(self):
        for k in NO_KINDS:
            for s in (0, 1, 131072, 2 ** 64 - 1):
                for n in (0, 1, FARTHEST, FARTHEST + 1):
                    with self.subTest(k=k, s=s, n=n):
                        self.assertEqual(joined(k, s, s, n), [-1])

    def test_no_state(self):
        for k in KINDS:
            for s in NO_STATES[k]:
                for n in (0, 1, 2, FARTHEST, FARTHEST + 1):
                    with self.subTest(k=k, s=s, n=n):
                        self.assertEqual(joined(k, s, EMPTY[k] + 65536 * (n % 2), n), [-1])
                        self.assertEqual(joined(k, EMPTY[k], s, n), [-1])
                        self.assertEqual(joined(k, s, s, n), [-1])

    def test_too_far(self):
        for k in KINDS:
            for n in TOO_FAR:
                for b in (EMPTY[k], EMPTY[k] + 65536):
                    with self.subTest(k=k, n=n, b=b):
                        self.assertEqual(joined(k, EMPTY[k], b, n), [-1])

    def test_odd_and_even_of_ones_complement(self):
        for a in STATES[2]:
            for b in (0, 1, 65534, 65535):
                for n in (1, 3, 65535, FARTHEST - 1):
                    with self.subTest(a=a, b=b, n=n):
                        self.assertEqual(joined(2, a, b, n), [-1])
            for b in (65536, 65537, 131070, 131071):
                for n in (0, 2, 65536, FARTHEST):
                    with self.subTest(a=a, b=b, n=n):
                        self.assertEqual(joined(2, a, b, n), [-1])

    def test_other_kinds_know_no_odd_and_even(self):
        for k in (0, 1, 3):
            for b in (1, 65537):
                for n in (0, 1):
                    with self.subTest(k=k, b=b, n=n):
                        self.assertEqual(joined(k, 1, b, n)[0], 0)


class JoinedKeepsNothingTest(TimedTest):
    def test_same_answer_again(self):
        for k in KINDS:
            for a in STATES[k]:
                for n in (0, 2, 1000, FARTHEST):
                    first = joined(k, a, EMPTY[k], n)
                    kept = list(first)
                    first.append(7)
                    joined(3 - k, EMPTY[3 - k], EMPTY[3 - k], 12)
                    joined(k, a, EMPTY[k], FARTHEST + 1)
                    with self.subTest(k=k, a=a, n=n):
                        self.assertEqual(joined(k, a, EMPTY[k], n), kept)

    def test_answers_plain_lists_of_whole_numbers(self):
        for k in KINDS + NO_KINDS:
            for b in (1, 65537):
                for n in (0, 1, FARTHEST, FARTHEST + 1):
                    answer = joined(k, 1, b, n)
                    self.assertIs(type(answer), list)
                    self.assertEqual({type(number) for number in answer}, {int})


if __name__ == "__main__":
    unittest.main()
