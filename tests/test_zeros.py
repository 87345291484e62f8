import unittest

from damagesums.check import add, begin, joined, zeros
from tests.reference import (
    EMPTY, FAR_LENGTHS, FARTHEST, KINDS, LENGTHS, NO_KINDS, NO_STATES, STATES, TEXTS, TOO_FAR, TimedTest,
    far_zeros, state,
)


class KnownValuesTest(TimedTest):
    def test_crc_32c(self):
        self.assertEqual(zeros(0, 0, 32), [0, 0x8A9136AA])

    def test_bits_of_all_ones_turn_to_zeros(self):
        # The state 2^w - 1 is the x of 0, which no byte of 0 changes.
        for n in (0, 1, 2, 1000, FARTHEST):
            self.assertEqual(zeros(0, 2 ** 32 - 1, n), [0, 2 ** 32 - 1])
            self.assertEqual(zeros(1, 2 ** 64 - 1, n), [0, 2 ** 64 - 1])

    def test_ones_complement(self):
        for s in (0, 1, 65534, 65535):
            for n in (0, 2, 65536, FARTHEST):
                self.assertEqual(zeros(2, s, n), [0, s])
                self.assertEqual(zeros(2, s + 65536, n), [0, s + 65536])
            for n in (1, 3, 65535, FARTHEST - 1):
                self.assertEqual(zeros(2, s, n), [0, s + 65536])
                self.assertEqual(zeros(2, s + 65536, n), [0, s])

    def test_adler_32(self):
        self.assertEqual(zeros(3, 1, 1), [0, 65536 + 1])
        self.assertEqual(zeros(3, 1, 65520), [0, 65536 * 65520 + 1])
        self.assertEqual(zeros(3, 1, 65521), [0, 1])
        self.assertEqual(zeros(3, 65536 * 65520 + 65520, 1), [0, 65536 * 65519 + 65520])
        self.assertEqual(zeros(3, 65536 * 5, FARTHEST), [0, 65536 * 5])
        self.assertEqual(zeros(3, 1, FARTHEST), [0, 65536 * (FARTHEST % 65521) + 1])


class ZerosTest(TimedTest):
    def test_as_add_of_bytes_of_0(self):
        for k in KINDS:
            for s in STATES[k]:
                for n in LENGTHS[:-6]:
                    with self.subTest(k=k, s=s, n=n):
                        self.assertEqual(zeros(k, s, n), [0, state(k, s, [0] * n)])
                        self.assertEqual(zeros(k, s, n), add(k, s, [0] * n))

    def test_as_add_of_many_bytes_of_0(self):
        for k in KINDS:
            for s in (STATES[k][1], STATES[k][-1]):
                for n in LENGTHS[-6:]:
                    with self.subTest(k=k, s=s, n=n):
                        self.assertEqual(zeros(k, s, n), add(k, s, [0] * n))

    def test_no_bytes_leave_the_state(self):
        for k in KINDS:
            for s in STATES[k]:
                with self.subTest(k=k, s=s):
                    self.assertEqual(zeros(k, s, 0), [0, s])

    def test_behind_texts(self):
        for k in KINDS:
            for text in TEXTS:
                for n in (0, 1, 2, 9, 10):
                    with self.subTest(k=k, text=text, n=n):
                        s = add(k, begin(k)[1], list(text))[1]
                        self.assertEqual(zeros(k, s, n), [0, state(k, EMPTY[k], text + [0] * n)])


class FarZerosTest(TimedTest):
    def test_far_lengths(self):
        for k in KINDS:
            for s in STATES[k]:
                for n in LENGTHS + FAR_LENGTHS:
                    with self.subTest(k=k, s=s, n=n):
                        self.assertEqual(zeros(k, s, n), [0, far_zeros(k, s, n)])

    def test_farthest_in_two_parts(self):
        for k in KINDS:
            for s in STATES[k]:
                for last in (1, 2, 1001):
                    with self.subTest(k=k, s=s, last=last):
                        near = zeros(k, s, FARTHEST - last)[1]
                        self.assertEqual(zeros(k, s, FARTHEST), add(k, near, [0] * last))

    def test_as_joined(self):
        for k in KINDS:
            for s in STATES[k]:
                for n in LENGTHS + FAR_LENGTHS:
                    with self.subTest(k=k, s=s, n=n):
                        empty = zeros(k, begin(k)[1], n)[1]
                        self.assertEqual(zeros(k, s, n), joined(k, s, empty, n))


class ZerosRefusesTest(TimedTest):
    def test_no_kind(self):
        for k in NO_KINDS:
            for s in (0, 1, 131072, 2 ** 64 - 1):
                for n in (0, 1, FARTHEST, FARTHEST + 1):
                    with self.subTest(k=k, s=s, n=n):
                        self.assertEqual(zeros(k, s, n), [-1])

    def test_no_state(self):
        for k in KINDS:
            for s in NO_STATES[k]:
                for n in (0, 1, FARTHEST, FARTHEST + 1):
                    with self.subTest(k=k, s=s, n=n):
                        self.assertEqual(zeros(k, s, n), [-1])

    def test_too_far(self):
        for k in KINDS:
            for s in STATES[k]:
                for n in TOO_FAR:
                    with self.subTest(k=k, s=s, n=n):
                        self.assertEqual(zeros(k, s, n), [-1])


class ZerosKeepsNothingTest(TimedTest):
    def test_same_answer_again(self):
        for k in KINDS:
            for s in STATES[k]:
                for n in (0, 1, 1000, FARTHEST):
                    first = zeros(k, s, n)
                    kept = list(first)
                    first.append(7)
                    zeros(3 - k, EMPTY[3 - k], 12)
                    zeros(k, s, FARTHEST + 1)
                    with self.subTest(k=k, s=s, n=n):
                        self.assertEqual(zeros(k, s, n), kept)

    def test_answers_plain_lists_of_whole_numbers(self):
        for k in KINDS + NO_KINDS:
            for n in (0, 1, FARTHEST, FARTHEST + 1):
                answer = zeros(k, 1, n)
                self.assertIs(type(answer), list)
                self.assertEqual({type(number) for number in answer}, {int})


if __name__ == "__main__":
    unittest.main()
