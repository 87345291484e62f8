import unittest

from damagesums.check import add, begin
from tests.reference import EMPTY, KINDS, LONG, NO_KINDS, NO_STATES, STATES, TEXTS, Sealed, state


def by_length(texts, rest):
    return [text for text in texts if len(text) % 2 == rest]


class KnownValuesTest(unittest.TestCase):
    def check(self, k, text, expected):
        self.assertEqual(add(k, EMPTY[k], list(text)), [0, expected])

    def test_crc_32c(self):
        self.check(0, b"123456789", 0xE3069283)
        self.check(0, [0] * 32, 0x8A9136AA)
        self.check(0, [255] * 32, 0x62A8AB43)
        self.check(0, range(32), 0x46DD794E)
        self.check(0, range(31, -1, -1), 0x113FDB5C)

    def test_crc_64(self):
        self.check(1, b"123456789", 0x995DC9BBDF1939FA)

    def test_ones_complement(self):
        self.check(2, [0x00, 0x01, 0xF2, 0x03, 0xF4, 0xF5, 0xF6, 0xF7], 0xDDF2)
        self.check(2, [1], 65536 + 256)
        self.check(2, [0, 1], 1)
        self.check(2, [1, 2, 3], 65536 + 0x0402)

    def test_ones_complement_zero_and_its_multiples(self):
        self.check(2, [0, 0], 0)
        self.check(2, [0], 65536)
        self.check(2, [255, 255], 65535)
        self.check(2, [255, 255, 0], 131071)
        self.check(2, [255, 255, 0, 1], 1)
        self.check(2, [255, 254, 0, 1], 65535)
        self.check(2, [255, 255] * 3, 65535)

    def test_adler_32(self):
        self.check(3, b"Wikipedia", 0x11E60398)
        self.check(3, b"a", 0x00620062)
        self.check(3, [0], 0x00010001)


class AddTest(unittest.TestCase):
    def test_every_state_with_every_text(self):
        for k in KINDS:
            for s in STATES[k]:
                for text in TEXTS:
                    with self.subTest(k=k, s=s, text=text):
                        self.assertEqual(add(k, s, list(text)), [0, state(k, s, text)])

    def test_no_bytes_leave_the_state(self):
        for k in KINDS:
            for s in STATES[k]:
                with self.subTest(k=k, s=s):
                    self.assertEqual(add(k, s, []), [0, s])

    def test_single_bytes(self):
        for k in KINDS:
            for c in range(256):
                with self.subTest(k=k, c=c):
                    self.assertEqual(add(k, EMPTY[k], [c]), [0, state(k, EMPTY[k], [c])])

    def test_pieces_are_as_the_whole(self):
        for k in KINDS:
            for s in STATES[k]:
                for text in TEXTS:
                    whole = add(k, s, list(text))
                    for cut in {0, 1, 2, 3, len(text) // 2, len(text)}:
                        with self.subTest(k=k, s=s, text=text, cut=cut):
                            between = add(k, s, text[:cut])
                            self.assertEqual(add(k, between[1], text[cut:]), whole)

    def test_byte_by_byte_from_begin(self):
        text = list(b"nobody wants to read them again")
        for k in KINDS:
            with self.subTest(k=k):
                s = begin(k)[1]
                for c in text:
                    s = add(k, s, [c])[1]
                self.assertEqual(s, state(k, EMPTY[k], text))

    def test_long_text(self):
        for k in KINDS:
            for s in (EMPTY[k], STATES[k][-1]):
                with self.subTest(k=k, s=s):
                    self.assertEqual(add(k, s, LONG), [0, state(k, s, LONG)])

    def test_long_text_of_highest_bytes(self):
        text = [255] * 65536
        for k in KINDS:
            with self.subTest(k=k):
                self.assertEqual(add(k, STATES[k][-1], text), [0, state(k, STATES[k][-1], text)])


class OddTextTest(unittest.TestCase):
    def test_text_behind_an_odd_one(self):
        self.assertEqual(add(2, 65536 + 0x0100, [2]), [0, 0x0102])
        self.assertEqual(add(2, 65536 + 0x0100, [2, 3]), [0, 65536 + 0x0402])
        self.assertEqual(add(2, 65536 + 0x0100, [2, 3, 4]), [0, 0x0406])

    def test_zero_stays_apart_from_65535(self):
        self.assertEqual(add(2, 0, [0, 0]), [0, 0])
        self.assertEqual(add(2, 0, [0]), [0, 65536])
        self.assertEqual(add(2, 65536, [0]), [0, 0])
        self.assertEqual(add(2, 65535, [0, 0]), [0, 65535])
        self.assertEqual(add(2, 65535, [0]), [0, 131071])
        self.assertEqual(add(2, 131071, [0]), [0, 65535])
        self.assertEqual(add(2, 131071, [255, 255]), [0, 131071])
        self.assertEqual(add(2, 65534, [0, 1]), [0, 65535])
        self.assertEqual(add(2, 131070, [1]), [0, 65535])

    def test_oddness_follows_the_length(self):
        for s in STATES[2]:
            for text in by_length(TEXTS, 0):
                self.assertEqual(add(2, s, text)[1] // 65536, s // 65536)
            for text in by_length(TEXTS, 1):
                self.assertEqual(add(2, s, text)[1] // 65536, 1 - s // 65536)


class AddRefusesTest(unittest.TestCase):
    def test_no_kind(self):
        for k in NO_KINDS:
            for s in (0, 1, 131072, 2 ** 64 - 1):
                for text in ([], [1, 2, 3], [0] * 65537):
                    with self.subTest(k=k, s=s, length=len(text)):
                        self.assertEqual(add(k, s, text), [-1])

    def test_no_state(self):
        for k in KINDS:
            for s in NO_STATES[k]:
                for text in ([], [1, 2, 3], [0] * 65537):
                    with self.subTest(k=k, s=s, length=len(text)):
                        self.assertEqual(add(k, s, text), [-1])

    def test_text_too_long(self):
        for k in KINDS:
            for length in (65537, 65538, 66000):
                with self.subTest(k=k, length=length):
                    self.assertEqual(add(k, EMPTY[k], [0] * length), [-1])


class AddKeepsNothingTest(unittest.TestCase):
    def test_text_is_as_it_was(self):
        for k in KINDS + (4,):
            for text in TEXTS + (LONG, [7] * 65537):
                handed = Sealed(text)
                add(k, 1, handed)
                self.assertEqual(handed, text)

    def test_same_answer_again(self):
        for k in KINDS:
            for s in STATES[k]:
                text = list(b"123456789")
                first = add(k, s, text)
                kept = list(first)
                first.append(7)
                add(3 - k, EMPTY[3 - k], [255, 0, 1])
                add(k, 2 ** 64 - 1, [1])
                with self.subTest(k=k, s=s):
                    self.assertEqual(add(k, s, text), kept)

    def test_answers_plain_lists_of_whole_numbers(self):
        for k in KINDS + NO_KINDS:
            for text in ([], [1, 2, 3], [0] * 65537):
                answer = add(k, 1, text)
                self.assertIs(type(answer), list)
                self.assertEqual({type(number) for number in answer}, {int})


if __name__ == "__main__":
    unittest.main()
