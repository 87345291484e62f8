import unittest

from damagesums.check import add, begin, of, sum_of
from tests.reference import KINDS, LONG, NO_KINDS, TEXTS, Sealed, text_sum


class OfTest(unittest.TestCase):
    def test_known_sums(self):
        text = list(b"123456789")
        self.assertEqual(of(0, text), [0, 0xE3069283])
        self.assertEqual(of(1, text), [0, 0x995DC9BBDF1939FA])
        self.assertEqual(of(2, text), [0, 65535 - 0x09D5])
        self.assertEqual(of(3, text), [0, 0x091E01DE])

    def test_no_bytes(self):
        self.assertEqual(of(0, []), [0, 0])
        self.assertEqual(of(1, []), [0, 0])
        self.assertEqual(of(2, []), [0, 65535])
        self.assertEqual(of(3, []), [0, 1])

    def test_ones_complement_ends(self):
        self.assertEqual(of(2, [0]), [0, 65535])
        self.assertEqual(of(2, [0, 0]), [0, 65535])
        self.assertEqual(of(2, [255, 255]), [0, 0])
        self.assertEqual(of(2, [255, 255, 0]), [0, 0])
        self.assertEqual(of(2, [255, 254, 0, 1]), [0, 0])
        self.assertEqual(of(2, [255, 255, 0, 1]), [0, 65534])
        self.assertEqual(of(2, [1]), [0, 65535 - 256])

    def test_texts(self):
        for k in KINDS:
            for text in TEXTS:
                with self.subTest(k=k, text=text):
                    self.assertEqual(of(k, list(text)), [0, text_sum(k, text)])

    def test_as_begin_add_and_sum(self):
        for k in KINDS:
            for text in TEXTS:
                with self.subTest(k=k, text=text):
                    s = add(k, begin(k)[1], list(text))[1]
                    self.assertEqual(of(k, list(text)), sum_of(k, s))

    def test_longest_text(self):
        for k in KINDS:
            for text in (LONG, [0] * 65536, [255] * 65536, LONG[:65535]):
                with self.subTest(k=k, first=text[1], length=len(text)):
                    self.assertEqual(of(k, text), [0, text_sum(k, text)])


class OfRefusesTest(unittest.TestCase):
    def test_no_kind(self):
        for k in NO_KINDS:
            for text in ([], [1, 2, 3], [0] * 65537):
                with self.subTest(k=k, length=len(text)):
                    self.assertEqual(of(k, text), [-1])

    def test_text_too_long(self):
        for k in KINDS:
            for length in (65537, 65538, 66000):
                with self.subTest(k=k, length=length):
                    self.assertEqual(of(k, [0] * length), [-1])


class OfKeepsNothingTest(unittest.TestCase):
    def test_text_is_as_it_was(self):
        for k in KINDS + (4,):
            for text in TEXTS + (LONG, [7] * 65537):
                handed = Sealed(text)
                of(k, handed)
                self.assertEqual(handed, text)

    def test_same_answer_again(self):
        for k in KINDS:
            text = list(b"123456789")
            first = of(k, text)
            kept = list(first)
            first.append(7)
            of(3 - k, [255, 0, 1])
            of(k, [0] * 65537)
            with self.subTest(k=k):
                self.assertEqual(of(k, text), kept)

    def test_answers_plain_lists_of_whole_numbers(self):
        for k in KINDS + NO_KINDS:
            for text in ([], [1, 2, 3], [0] * 65537):
                answer = of(k, text)
                self.assertIs(type(answer), list)
                self.assertEqual({type(number) for number in answer}, {int})


if __name__ == "__main__":
    unittest.main()
