import unittest

from damagesums.check import of, put
from tests.reference import KINDS, LONG, NO_KINDS, SUM_LENGTH, TEXTS, Sealed, text_put

PLACES = (0, 1, 2, 3, 4, 5, 7, 8)
HEADER = [0x45, 0, 0, 0x73, 0, 0, 0x40, 0, 0x40, 0x11, 0, 0, 0xC0, 0xA8, 0, 1, 0xC0, 0xA8, 0, 0xC7]


def places(k, text):
    """Places with room for the sum: near the start, in the middle, the last ones."""
    last = len(text) - SUM_LENGTH[k]
    near = set(PLACES) | {last // 2, last // 2 + 1, last - 1, last}
    return sorted(at for at in near if 0 <= at <= last)


class KnownValuesTest(unittest.TestCase):
    def test_ones_complement_of_a_header(self):
        filled = HEADER[:10] + [0xB8, 0x61] + HEADER[12:]
        self.assertEqual(put(2, 10, list(HEADER)), [20] + filled)
        self.assertEqual(put(2, 10, filled), [20] + filled)

    def test_crc_32c_highest_byte_first(self):
        # 32 bytes of 0 have the sum 8A9136AA.
        self.assertEqual(put(0, 0, [0] * 32), [32, 0x8A, 0x91, 0x36, 0xAA] + [0] * 28)
        self.assertEqual(put(0, 28, [0] * 32), [32] + [0] * 28 + [0x8A, 0x91, 0x36, 0xAA])

    def test_adler_32_highest_byte_first(self):
        self.assertEqual(put(3, 0, [0] * 4), [4, 0, 4, 0, 1])
        self.assertEqual(put(3, 1, [1, 9, 9, 9, 9]), [5, 1, 0, 10, 0, 2])

    def test_ones_complement_ends(self):
        self.assertEqual(put(2, 0, [0, 0]), [2, 255, 255])
        self.assertEqual(put(2, 0, [1, 2]), [2, 255, 255])
        self.assertEqual(put(2, 1, [0, 0, 0]), [3, 0, 255, 255])
        self.assertEqual(put(2, 2, [255, 255, 7, 7]), [4, 255, 255, 0, 0])
        self.assertEqual(put(2, 1, [1, 0, 0]), [3, 1, 254, 255])
        self.assertEqual(put(2, 0, [9, 9, 1]), [3, 254, 255, 1])


class PutTest(unittest.TestCase):
    def test_texts(self):
        for k in KINDS:
            for text in TEXTS:
                for at in places(k, text):
                    with self.subTest(k=k, at=at, text=text):
                        self.assertEqual(put(k, at, list(text)), [len(text)] + text_put(k, at, text))

    def test_every_place(self):
        text = [(11 * i + 5) % 256 for i in range(30)]
        for k in KINDS:
            for at in range(30 - SUM_LENGTH[k] + 1):
                with self.subTest(k=k, at=at):
                    self.assertEqual(put(k, at, list(text)), [30] + text_put(k, at, text))

    def test_the_sum_is_of_the_text_with_bytes_of_0(self):
        text = list(b"nobody wants to read them again")
        for k in KINDS:
            for at in places(k, text):
                with self.subTest(k=k, at=at):
                    behind = at + SUM_LENGTH[k]
                    number = of(k, text[:at] + [0] * SUM_LENGTH[k] + text[behind:])[1]
                    answer = put(k, at, list(text))
                    self.assertEqual(answer[0], len(text))
                    self.assertEqual(int.from_bytes(bytes(answer[1 + at:1 + behind]), "big"), number)
                    self.assertEqual(answer[1:1 + at] + answer[1 + behind:], text[:at] + text[behind:])

    def test_what_stood_there_does_not_matter(self):
        for k in KINDS:
            for at in (0, 1, 6, 20 - SUM_LENGTH[k]):
                answers = []
                for c in (0, 1, 128, 255):
                    text = list(HEADER)
                    text[at:at + SUM_LENGTH[k]] = [c] * SUM_LENGTH[k]
                    answers.append(put(k, at, text))
                with self.subTest(k=k, at=at):
                    self.assertEqual(answers, [answers[0]] * 4)

    def test_text_just_as_long_as_its_sum(self):
        for k in KINDS:
            for c in (0, 1, 255):
                text = [c] * SUM_LENGTH[k]
                with self.subTest(k=k, c=c):
                    self.assertEqual(put(k, 0, text), [SUM_LENGTH[k]] + text_put(k, 0, text))

    def test_longest_text(self):
        for k in KINDS:
            for at in (0, 32767, 32768, 65536 - SUM_LENGTH[k]):
                with self.subTest(k=k, at=at):
                    self.assertEqual(put(k, at, LONG), [65536] + text_put(k, at, LONG))


class PutRefusesTest(unittest.TestCase):
    def test_no_kind(self):
        for k in NO_KINDS:
            for at in (-1, 0, 5, 100):
                for text in ([], [0] * 20, [0] * 65537):
                    with self.subTest(k=k, at=at, length=len(text)):
                        self.assertEqual(put(k, at, text), [-1])

    def test_text_too_long(self):
        for k in KINDS:
            for length in (65537, 65538, 66000):
                for at in (0, 100, 65536 - SUM_LENGTH[k], length - SUM_LENGTH[k]):
                    with self.subTest(k=k, length=length, at=at):
                        self.assertEqual(put(k, at, [0] * length), [-1])

    def test_place_below_0(self):
        for k in KINDS:
            for at in (-1, -2, -4, -8, -20, -21, -2147483648):
                with self.subTest(k=k, at=at):
                    self.assertEqual(put(k, at, [0] * 20), [-1])

    def test_no_room(self):
        for k in KINDS:
            for at in (21 - SUM_LENGTH[k], 19, 20, 21, 2147483647):
                with self.subTest(k=k, at=at):
                    self.assertEqual(put(k, at, [0] * 20), [-1])

    def test_text_shorter_than_its_sum(self):
        for k in KINDS:
            for length in range(SUM_LENGTH[k]):
                for at in (-1, 0, 1):
                    with self.subTest(k=k, length=length, at=at):
                        self.assertEqual(put(k, at, [0] * length), [-1])

    def test_no_room_in_the_longest_text(self):
        for k in KINDS:
            with self.subTest(k=k):
                self.assertEqual(put(k, 65537 - SUM_LENGTH[k], LONG), [-1])


class PutKeepsNothingTest(unittest.TestCase):
    def test_text_is_as_it_was(self):
        for k in KINDS + (4,):
            for text in TEXTS + (LONG, [7] * 65537):
                for at in (-1, 0, 1):
                    handed = Sealed(text)
                    put(k, at, handed)
                    self.assertEqual(handed, text)

    def test_same_answer_again(self):
        for k in KINDS:
            text = list(HEADER)
            first = put(k, 3, text)
            kept = list(first)
            first[1:] = [7]
            put(3 - k, 1, [255] * 9)
            put(k, -1, text)
            with self.subTest(k=k):
                self.assertEqual(put(k, 3, text), kept)

    def test_answers_plain_lists_of_whole_numbers(self):
        for k in KINDS + NO_KINDS:
            for at in (-1, 0, 1):
                answer = put(k, at, [1, 2, 3, 4, 5, 6, 7, 8, 9])
                self.assertIs(type(answer), list)
                self.assertEqual({type(number) for number in answer}, {int})


if __name__ == "__main__":
    unittest.main()
