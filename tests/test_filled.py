import unittest

from damagesums.check import add, begin, filled
from tests.reference import (
    BITS_KINDS, NO_BITS_KINDS, NO_STATES, STATES, SUM_LENGTH, TEXTS, WIDTH, state,
)

MORE_STATES = tuple(
    STATES[k] + tuple(2 ** bit for bit in range(WIDTH[k])) + tuple(
        (i * 0x9E3779B97F4A7C15 + 12345) % 2 ** WIDTH[k] for i in range(40)
    )
    for k in BITS_KINDS
)


class KnownValuesTest(unittest.TestCase):
    def test_crc_32c_behind_its_own_sum(self):
        # A text with its CRC-32C behind it, the lowest byte first, always has the sum 48674BC7.
        self.assertEqual(filled(0, 0xE3069283, 0x48674BC7), [4, 0x83, 0x92, 0x06, 0xE3])
        self.assertEqual(filled(0, 0, 0x48674BC7), [4, 0, 0, 0, 0])
        self.assertEqual(filled(0, 2 ** 32 - 1, 0x48674BC7), [4, 255, 255, 255, 255])

    def test_crc_64_behind_its_own_sum(self):
        own = state(1, 0, [0] * 8)
        for s in MORE_STATES[1]:
            with self.subTest(s=s):
                self.assertEqual(filled(1, s, own), [8] + list(s.to_bytes(8, "little")))

    def test_end_of_a_known_text(self):
        s = add(0, 0, list(b"12345"))[1]
        self.assertEqual(filled(0, s, 0xE3069283), [4] + list(b"6789"))
        s = add(1, 0, list(b"1"))[1]
        self.assertEqual(filled(1, s, 0x995DC9BBDF1939FA), [8] + list(b"23456789"))

    def test_bytes_of_0(self):
        self.assertEqual(filled(0, 2 ** 32 - 1, 2 ** 32 - 1), [4] + [0] * 4)
        self.assertEqual(filled(1, 2 ** 64 - 1, 2 ** 64 - 1), [8] + [0] * 8)

    def test_bytes_of_255(self):
        # From begin on they make the x of 0, whatever the kind.
        self.assertEqual(filled(0, 0, 2 ** 32 - 1), [4] + [255] * 4)
        self.assertEqual(filled(1, 0, 2 ** 64 - 1), [8] + [255] * 8)


class FilledTest(unittest.TestCase):
    def check(self, k, s, want):
        with self.subTest(k=k, s=s, want=want):
            answer = filled(k, s, want)
            self.assertEqual(answer[0], SUM_LENGTH[k])
            self.assertEqual(len(answer), 1 + SUM_LENGTH[k])
            self.assertTrue(all(0 <= c <= 255 for c in answer[1:]))
            self.assertEqual(add(k, s, answer[1:]), [0, want])
            self.assertEqual(state(k, s, answer[1:]), want)

    def test_makes_want(self):
        for k in BITS_KINDS:
            for s in STATES[k]:
                for want in MORE_STATES[k]:
                    self.check(k, s, want)
                    self.check(k, want, s)

    def test_ends(self):
        for k in BITS_KINDS:
            top = 2 ** WIDTH[k] - 1
            for s in (0, top):
                for want in (0, top):
                    self.check(k, s, want)

    def test_want_as_s(self):
        for k in BITS_KINDS:
            for s in MORE_STATES[k]:
                self.check(k, s, s)

    def test_the_last_bytes_of_texts(self):
        for k in BITS_KINDS:
            for text in TEXTS:
                if len(text) >= SUM_LENGTH[k]:
                    with self.subTest(k=k, text=text):
                        last = text[-SUM_LENGTH[k]:]
                        s = add(k, begin(k)[1], text[:-SUM_LENGTH[k]])[1]
                        want = add(k, begin(k)[1], list(text))[1]
                        self.assertEqual(filled(k, s, want), [SUM_LENGTH[k]] + last)


class FilledRefusesTest(unittest.TestCase):
    def test_no_kind_by_bits(self):
        for k in NO_BITS_KINDS:
            for s in (0, 1, 131072, 2 ** 32, 2 ** 64 - 1):
                for want in (0, 1, 2 ** 32 - 1, 2 ** 32, 2 ** 64 - 1):
                    with self.subTest(k=k, s=s, want=want):
                        self.assertEqual(filled(k, s, want), [-1])

    def test_no_state(self):
        for s in NO_STATES[0]:
            for want in (0, 1, 2 ** 32 - 1, 2 ** 32, 2 ** 64 - 1):
                with self.subTest(s=s, want=want):
                    self.assertEqual(filled(0, s, want), [-1])

    def test_want_too_high(self):
        for s in STATES[0]:
            for want in (2 ** 32, 2 ** 32 + 1, 2 ** 33, 2 ** 63, 2 ** 64 - 1):
                with self.subTest(s=s, want=want):
                    self.assertEqual(filled(0, s, want), [-1])


class FilledKeepsNothingTest(unittest.TestCase):
    def test_same_answer_again(self):
        for k in BITS_KINDS:
            for s in STATES[k]:
                for want in STATES[k]:
                    first = filled(k, s, want)
                    kept = list(first)
                    first[1:] = [7]
                    filled(1 - k, 5, 6)
                    filled(2, s, want)
                    with self.subTest(k=k, s=s, want=want):
                        self.assertEqual(filled(k, s, want), kept)

    def test_answers_plain_lists_of_whole_numbers(self):
        for k in BITS_KINDS + NO_BITS_KINDS:
            for want in (0, 1, 2 ** 32, 2 ** 64 - 1):
                answer = filled(k, 1, want)
                self.assertIs(type(answer), list)
                self.assertEqual({type(number) for number in answer}, {int})


if __name__ == "__main__":
    unittest.main()
