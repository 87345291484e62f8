import unittest

from damagesums.check import add, begin, copied
from tests.reference import EMPTY, KINDS, LONG, NO_KINDS, NO_STATES, STATES, TEXTS, Sealed, state

TEXT = list(b"nobody wants to read them again")


def parts(text):
    """Where a part may start and how long it is: near the start, in the middle, up to the end."""
    length = len(text)
    starts = {0, 1, 2, length // 2, length - 2, length - 1, length}
    counts = {0, 1, 2, 3, length // 2, length - 1, length}
    return sorted(
        (start, n) for start in starts for n in counts | {length - start}
        if 0 <= start and 0 <= n and start + n <= length
    )


class KnownValuesTest(unittest.TestCase):
    def test_crc_32c(self):
        self.assertEqual(copied(0, 0, 2, 9, list(b"xx123456789yy")), [9, 0xE3069283] + list(b"123456789"))
        self.assertEqual(copied(0, 0, 0, 32, [0] * 32), [32, 0x8A9136AA] + [0] * 32)

    def test_crc_64(self):
        self.assertEqual(copied(1, 0, 1, 9, list(b"x123456789")), [9, 0x995DC9BBDF1939FA] + list(b"123456789"))

    def test_ones_complement(self):
        self.assertEqual(copied(2, 0, 1, 2, [9, 1, 2, 9]), [2, 0x0102, 1, 2])
        self.assertEqual(copied(2, 0, 1, 1, [9, 1, 2, 9]), [1, 65536 + 0x0100, 1])
        self.assertEqual(copied(2, 65536 + 0x0100, 0, 1, [2, 3]), [1, 0x0102, 2])
        self.assertEqual(copied(2, 65536 + 0x0100, 0, 2, [2, 3]), [2, 65536 + 0x0402, 2, 3])

    def test_ones_complement_zero_and_65535(self):
        self.assertEqual(copied(2, 0, 0, 2, [0, 0]), [2, 0, 0, 0])
        self.assertEqual(copied(2, 65535, 0, 2, [0, 0]), [2, 65535, 0, 0])
        self.assertEqual(copied(2, 65536, 0, 1, [0]), [1, 0, 0])
        self.assertEqual(copied(2, 131071, 0, 1, [0]), [1, 65535, 0])
        self.assertEqual(copied(2, 131071, 0, 2, [255, 255]), [2, 131071, 255, 255])
        self.assertEqual(copied(2, 0, 1, 2, [7, 255, 255]), [2, 65535, 255, 255])

    def test_adler_32(self):
        self.assertEqual(copied(3, 1, 4, 9, list(b"the Wikipedia.")), [9, 0x11E60398] + list(b"Wikipedia"))


class CopiedTest(unittest.TestCase):
    def check(self, k, s, start, n, text):
        with self.subTest(k=k, s=s, start=start, n=n, length=len(text)):
            part = text[start:start + n]
            answer = copied(k, s, start, n, text)
            self.assertEqual(answer, [n, state(k, s, part)] + part)
            self.assertEqual(add(k, s, answer[2:]), [0, answer[1]])

    def test_texts(self):
        for k in KINDS:
            for text in TEXTS:
                for start, n in parts(text):
                    self.check(k, STATES[k][1], start, n, list(text))

    def test_every_part(self):
        for k in KINDS:
            for start in range(len(TEXT) + 1):
                for n in range(len(TEXT) - start + 1):
                    self.check(k, EMPTY[k], start, n, list(TEXT))

    def test_every_state(self):
        for k in KINDS:
            for s in STATES[k]:
                for start, n in parts(TEXT):
                    self.check(k, s, start, n, list(TEXT))

    def test_no_bytes_leave_the_state(self):
        for k in KINDS:
            for s in STATES[k]:
                for text in ([], [1], TEXT):
                    for start in (0, len(text) // 2, len(text)):
                        with self.subTest(k=k, s=s, start=start, text=text):
                            self.assertEqual(copied(k, s, start, 0, list(text)), [0, s])

    def test_just_the_whole_text(self):
        for k in KINDS:
            for text in TEXTS:
                with self.subTest(k=k, text=text):
                    s = add(k, begin(k)[1], list(text))[1]
                    self.assertEqual(copied(k, begin(k)[1], 0, len(text), list(text)), [len(text), s] + text)

    def test_part_by_part(self):
        for k in KINDS:
            s = begin(k)[1]
            whole = []
            for start in range(0, len(TEXT), 3):
                answer = copied(k, s, start, min(3, len(TEXT) - start), list(TEXT))
                s = answer[1]
                whole += answer[2:]
            with self.subTest(k=k):
                self.assertEqual(whole, TEXT)
                self.assertEqual(s, state(k, EMPTY[k], TEXT))

    def test_longest_text(self):
        for k in KINDS:
            for start, n in ((0, 65536), (1, 65535), (32767, 100), (65535, 1), (65536, 0), (0, 0)):
                for s in (STATES[k][0], STATES[k][-1]):
                    self.check(k, s, start, n, LONG)

    def test_the_part_is_a_copy(self):
        text = [1, 2, 3]
        answer = copied(0, 0, 0, 3, text)
        answer[2:] = [9, 9, 9]
        self.assertEqual(text, [1, 2, 3])


class CopiedRefusesTest(unittest.TestCase):
    def test_no_kind(self):
        for k in NO_KINDS:
            for s in (0, 1, 131072, 2 ** 64 - 1):
                for start, n in ((0, 0), (0, 3), (-1, 1), (1, 3)):
                    with self.subTest(k=k, s=s, start=start, n=n):
                        self.assertEqual(copied(k, s, start, n, [1, 2, 3]), [-1])

    def test_no_state(self):
        for k in KINDS:
            for s in NO_STATES[k]:
                for start, n in ((0, 0), (0, 3), (-1, 1), (1, 3)):
                    with self.subTest(k=k, s=s, start=start, n=n):
                        self.assertEqual(copied(k, s, start, n, [1, 2, 3]), [-1])

    def test_start_below_0(self):
        for k in KINDS:
            for start in (-1, -2, -3, -4, -2147483648):
                for n in (0, 1, 3, 4, 2147483647):
                    with self.subTest(k=k, start=start, n=n):
                        self.assertEqual(copied(k, EMPTY[k], start, n, [1, 2, 3]), [-1])

    def test_n_below_0(self):
        for k in KINDS:
            for n in (-1, -2, -3, -4, -2147483648):
                for start in (0, 1, 3, 4, 2147483647):
                    with self.subTest(k=k, start=start, n=n):
                        self.assertEqual(copied(k, EMPTY[k], start, n, [1, 2, 3]), [-1])

    def test_not_so_many(self):
        for k in KINDS:
            for text in ([], [1], [1, 2, 3], TEXT):
                for start in (0, 1, len(text) // 2, len(text)):
                    for more in (1, 2, 1000):
                        with self.subTest(k=k, start=start, more=more, text=text):
                            self.assertEqual(copied(k, EMPTY[k], start, len(text) - start + more, text), [-1])

    def test_start_behind_the_end(self):
        for k in KINDS:
            for start in (4, 5, 2147483647):
                for n in (0, 1, 2147483647):
                    with self.subTest(k=k, start=start, n=n):
                        self.assertEqual(copied(k, EMPTY[k], start, n, [1, 2, 3]), [-1])

    def test_not_so_many_in_the_longest_text(self):
        for k in KINDS:
            for start, n in ((0, 65537), (1, 65536), (65536, 1), (65537, 0)):
                with self.subTest(k=k, start=start, n=n):
                    self.assertEqual(copied(k, EMPTY[k], start, n, LONG), [-1])

    def test_text_too_long(self):
        for k in KINDS:
            for length in (65537, 65538, 66000):
                for start, n in ((0, 0), (0, 1), (0, 65536), (length, 0), (0, length), (5, 9)):
                    with self.subTest(k=k, length=length, start=start, n=n):
                        self.assertEqual(copied(k, EMPTY[k], start, n, [0] * length), [-1])


class CopiedKeepsNothingTest(unittest.TestCase):
    def test_text_is_as_it_was(self):
        for k in KINDS + (4,):
            for text in TEXTS + (LONG, [7] * 65537):
                for start, n in ((0, 0), (0, len(text)), (-1, 1), (1, 1), (0, len(text) + 1)):
                    handed = Sealed(text)
                    copied(k, 1, start, n, handed)
                    self.assertEqual(handed, text)

    def test_same_answer_again(self):
        for k in KINDS:
            for s in STATES[k]:
                text = list(TEXT)
                first = copied(k, s, 3, 20, text)
                kept = list(first)
                first[1:] = [7]
                copied(3 - k, EMPTY[3 - k], 0, 2, [255, 0, 1])
                copied(k, s, -1, 3, text)
                with self.subTest(k=k, s=s):
                    self.assertEqual(copied(k, s, 3, 20, text), kept)

    def test_answers_plain_lists_of_whole_numbers(self):
        for k in KINDS + NO_KINDS:
            for start, n in ((0, 0), (0, 3), (-1, 1), (1, 3)):
                answer = copied(k, 1, start, n, [1, 2, 3])
                self.assertIs(type(answer), list)
                self.assertEqual({type(number) for number in answer}, {int})


if __name__ == "__main__":
    unittest.main()
