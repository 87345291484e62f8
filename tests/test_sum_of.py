import unittest

from damagesums.check import add, begin, sum_of
from tests.reference import EMPTY, KINDS, NO_KINDS, NO_STATES, STATES


class SumOfTest(unittest.TestCase):
    def test_state_is_the_sum(self):
        for k in (0, 1, 3):
            for s in STATES[k]:
                with self.subTest(k=k, s=s):
                    self.assertEqual(sum_of(k, s), [0, s])

    def test_ones_complement(self):
        self.assertEqual(sum_of(2, 0xDDF2), [0, 0x220D])
        self.assertEqual(sum_of(2, 1), [0, 65534])
        self.assertEqual(sum_of(2, 65534), [0, 1])

    def test_ones_complement_ends(self):
        self.assertEqual(sum_of(2, 0), [0, 65535])
        self.assertEqual(sum_of(2, 65535), [0, 0])

    def test_ones_complement_of_odd_texts(self):
        self.assertEqual(sum_of(2, 65536), [0, 65535])
        self.assertEqual(sum_of(2, 65537), [0, 65534])
        self.assertEqual(sum_of(2, 131070), [0, 1])
        self.assertEqual(sum_of(2, 131071), [0, 0])

    def test_sums_of_texts(self):
        sums = (0xE3069283, 0x995DC9BBDF1939FA, 65535 - 0x09D5, 0x091E01DE)
        for k in KINDS:
            with self.subTest(k=k):
                s = add(k, begin(k)[1], list(b"123456789"))[1]
                self.assertEqual(sum_of(k, s), [0, sums[k]])

    def test_sums_of_no_bytes(self):
        sums = (0, 0, 65535, 1)
        for k in KINDS:
            with self.subTest(k=k):
                self.assertEqual(sum_of(k, begin(k)[1]), [0, sums[k]])

    def test_no_kind(self):
        for k in NO_KINDS:
            for s in (0, 1, 131072, 2 ** 64 - 1):
                with self.subTest(k=k, s=s):
                    self.assertEqual(sum_of(k, s), [-1])

    def test_no_state(self):
        for k in KINDS:
            for s in NO_STATES[k]:
                with self.subTest(k=k, s=s):
                    self.assertEqual(sum_of(k, s), [-1])

    def test_same_answer_again(self):
        for k in KINDS:
            for s in STATES[k]:
                first = sum_of(k, s)
                kept = list(first)
                first.append(7)
                sum_of(3 - k, EMPTY[3 - k])
                sum_of(k, 2 ** 64 - 1)
                with self.subTest(k=k, s=s):
                    self.assertEqual(sum_of(k, s), kept)

    def test_answers_plain_lists_of_whole_numbers(self):
        for k in KINDS + NO_KINDS:
            for s in (1, 131072, 2 ** 64 - 1):
                answer = sum_of(k, s)
                self.assertIs(type(answer), list)
                self.assertEqual({type(number) for number in answer}, {int})


if __name__ == "__main__":
    unittest.main()
