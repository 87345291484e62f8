import unittest

from damagesums.check import add, begin, sum_of
from tests.reference import EMPTY, KINDS, NO_KINDS


class BeginTest(unittest.TestCase):
    def test_state_of_no_bytes(self):
        self.assertEqual(begin(0), [0, 0])
        self.assertEqual(begin(1), [0, 0])
        self.assertEqual(begin(2), [0, 0])
        self.assertEqual(begin(3), [0, 1])

    def test_no_kind(self):
        for k in NO_KINDS:
            with self.subTest(k=k):
                self.assertEqual(begin(k), [-1])

    def test_answers_plain_lists_of_whole_numbers(self):
        for k in KINDS + NO_KINDS:
            with self.subTest(k=k):
                answer = begin(k)
                self.assertIs(type(answer), list)
                self.assertEqual({type(number) for number in answer}, {int})

    def test_same_answer_again(self):
        for k in KINDS:
            with self.subTest(k=k):
                first = begin(k)
                first.append(7)
                add(k, EMPTY[k], [1, 2, 3])
                sum_of(k, EMPTY[k])
                self.assertEqual(begin(k), [0, EMPTY[k]])
        begin(4).append(7)
        self.assertEqual(begin(4), [-1])


if __name__ == "__main__":
    unittest.main()
