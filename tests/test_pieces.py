import unittest

from damagesums.check import add, begin, joined, pieces
from tests.reference import EMPTY, KINDS, LONG, NO_KINDS, TEXTS, Sealed, state

ROWS = (
    [[]], [[0]], [[255]], [[0, 0]], [[], []], [[], [1]], [[1], []], [[], [], [7, 8], [], [9], []],
    [[1], [2]], [[1], [2, 3]], [[1, 2, 3], [4, 5], [6]], [[1, 2], [3], [4], [5, 6]], [[255], [255], [0]],
    [[0], [0, 0], [0]], [[255, 255], [255, 255]], [[0], [255, 255], [0]], [[255], [254, 0], [1]],
    [[0, 0], [255]], [list(b"1234"), list(b"56789")], [[1], [2], [3], [4], [5]],
    [list(text) for text in TEXTS], [list(text) for text in reversed(TEXTS)],
)


def cut(text, lengths):
    texts = []
    place = 0
    for length in lengths:
        texts.append(text[place:place + length])
        place += length
    return texts


def flat(texts):
    return [c for text in texts for c in text]


def expected(k, texts):
    return [len(texts)] + [state(k, EMPTY[k], text) for text in texts] + [state(k, EMPTY[k], flat(texts))]


class KnownValuesTest(unittest.TestCase):
    def test_crc_32c(self):
        answer = pieces(0, [list(b"123456789"), [0] * 32])
        self.assertEqual(answer[:3], [2, 0xE3069283, 0x8A9136AA])
        self.assertEqual(pieces(0, [list(b"1234"), list(b"56789")])[3], 0xE3069283)

    def test_crc_64(self):
        self.assertEqual(pieces(1, [list(b"12345678"), list(b"9")])[3], 0x995DC9BBDF1939FA)

    def test_ones_complement(self):
        self.assertEqual(pieces(2, [[1, 2], [3, 4]]), [2, 0x0102, 0x0304, 0x0406])
        self.assertEqual(pieces(2, [[1], [2, 3]]), [2, 65536 + 0x0100, 0x0203, 65536 + 0x0402])
        self.assertEqual(pieces(2, [[1], [2]]), [2, 65536 + 0x0100, 65536 + 0x0200, 0x0102])
        self.assertEqual(pieces(2, [[1], [2], [3]]), [3, 65792, 65536 + 0x0200, 65536 + 0x0300, 65536 + 0x0402])

    def test_ones_complement_zero_and_65535(self):
        self.assertEqual(pieces(2, [[0], [0]]), [2, 65536, 65536, 0])
        self.assertEqual(pieces(2, [[0], [0, 0]]), [2, 65536, 0, 65536])
        self.assertEqual(pieces(2, [[255], [255]]), [2, 65536 + 0xFF00, 65536 + 0xFF00, 65535])
        self.assertEqual(pieces(2, [[255, 255], [255, 255]]), [2, 65535, 65535, 65535])
        self.assertEqual(pieces(2, [[0], [255, 255]]), [2, 65536, 65535, 131071])

    def test_adler_32(self):
        self.assertEqual(pieces(3, [list(b"Wiki"), list(b"pedia")])[3], 0x11E60398)
        self.assertEqual(pieces(3, [list(b"a")]), [1, 0x00620062, 0x00620062])


class PiecesTest(unittest.TestCase):
    def test_rows(self):
        for k in KINDS:
            for texts in ROWS:
                with self.subTest(k=k, texts=texts):
                    self.assertEqual(pieces(k, [list(text) for text in texts]), expected(k, texts))

    def test_every_two_texts(self):
        for k in KINDS:
            for first in TEXTS[:-3]:
                for second in TEXTS[:-3]:
                    with self.subTest(k=k, first=first, second=second):
                        self.assertEqual(pieces(k, [list(first), list(second)]), expected(k, [first, second]))

    def test_as_add_and_joined(self):
        for k in KINDS:
            for texts in ROWS:
                states = [add(k, begin(k)[1], text)[1] for text in texts]
                whole = begin(k)[1]
                for s, text in zip(states, texts):
                    whole = joined(k, whole, s, len(text))[1]
                with self.subTest(k=k, texts=texts):
                    self.assertEqual(add(k, begin(k)[1], flat(texts)), [0, whole])
                    self.assertEqual(pieces(k, texts), [len(texts)] + states + [whole])

    def test_no_texts(self):
        for k in KINDS:
            with self.subTest(k=k):
                self.assertEqual(pieces(k, []), [0, EMPTY[k]])

    def test_one_text(self):
        for k in KINDS:
            for text in TEXTS:
                s = state(k, EMPTY[k], text)
                with self.subTest(k=k, text=text):
                    self.assertEqual(pieces(k, [list(text)]), [1, s, s])

    def test_one_text_given_twice_as_one_list(self):
        text = [1, 2, 3]
        for k in KINDS:
            with self.subTest(k=k):
                self.assertEqual(pieces(k, [text, text]), expected(k, [text, text]))

    def test_64_texts(self):
        for k in KINDS:
            for lengths in ([0] * 64, [1] * 64, [0, 1, 2, 3] * 16, list(range(64)), [0] * 63 + [5], [5] + [0] * 63):
                texts = cut(LONG, lengths)
                with self.subTest(k=k, lengths=lengths):
                    self.assertEqual(pieces(k, texts), expected(k, texts))

    def test_just_65536_bytes(self):
        rows = ([1024] * 64, [1023, 1025] * 32, [1700] * 38 + [936], [1700] * 38 + [935, 0, 1])
        for k in KINDS:
            for lengths in rows:
                texts = cut(LONG, lengths)
                self.assertEqual(flat(texts), LONG)
                with self.subTest(k=k, lengths=lengths):
                    self.assertEqual(pieces(k, texts), expected(k, texts))

    def test_just_65536_bytes_in_one_text(self):
        for k in KINDS:
            s = state(k, EMPTY[k], LONG)
            with self.subTest(k=k):
                self.assertEqual(pieces(k, [LONG]), [1, s, s])
                self.assertEqual(pieces(k, [[], LONG, []]), [3, EMPTY[k], s, EMPTY[k], s])


class PiecesRefusesTest(unittest.TestCase):
    def test_no_kind(self):
        for k in NO_KINDS:
            for texts in ([], [[]], [[1, 2, 3], [4]], [[]] * 65, [[0] * 65537]):
                with self.subTest(k=k, count=len(texts)):
                    self.assertEqual(pieces(k, texts), [-1])

    def test_too_many_texts(self):
        for k in KINDS:
            for count in (65, 66):
                for text in ([], [1], [1] * 1000, [1] * 1700):
                    with self.subTest(k=k, count=count, length=len(text)):
                        self.assertEqual(pieces(k, [list(text) for number in range(count)]), [-1])

    def test_too_many_bytes(self):
        rows = (
            [1024] * 63 + [1025], [1025] + [1024] * 63, [1700] * 38 + [937], [1700] * 38 + [936, 1],
            [1700] * 64, [65537], [65536, 1], [1, 65536], [0, 65536, 0, 1],
        )
        for k in KINDS:
            for lengths in rows:
                with self.subTest(k=k, lengths=lengths):
                    self.assertEqual(pieces(k, [[0] * length for length in lengths]), [-1])


class PiecesKeepsNothingTest(unittest.TestCase):
    def test_texts_are_as_they_were(self):
        for k in KINDS + (4,):
            for texts in ROWS + ([], [[1]] * 65, [[7] * 65537]):
                handed = Sealed([Sealed(text) for text in texts])
                within = list(handed)
                pieces(k, handed)
                self.assertEqual(handed, texts)
                self.assertEqual([id(text) for text in handed], [id(text) for text in within])

    def test_same_answer_again(self):
        for k in KINDS:
            for texts in ROWS:
                first = pieces(k, texts)
                kept = list(first)
                first[1:] = [7]
                pieces(3 - k, [[255, 0, 1], [9]])
                pieces(k, [[1]] * 65)
                with self.subTest(k=k, texts=texts):
                    self.assertEqual(pieces(k, texts), kept)

    def test_answers_plain_lists_of_whole_numbers(self):
        for k in KINDS + NO_KINDS:
            for texts in ([], [[]], [[1, 2, 3], [4]], [[1]] * 65):
                answer = pieces(k, texts)
                self.assertIs(type(answer), list)
                self.assertEqual({type(number) for number in answer}, {int})


if __name__ == "__main__":
    unittest.main()
