import unittest

from damagesums.check import put, right
from tests.reference import KINDS, LONG, NO_KINDS, SUM_LENGTH, TEXTS, Sealed, text_put

HEADER = [0x45, 0, 0, 0x73, 0, 0, 0x40, 0, 0x40, 0x11, 0xB8, 0x61, 0xC0, 0xA8, 0, 1, 0xC0, 0xA8, 0, 0xC7]


def with_byte(text, place, c):
    return text[:place] + [c] + text[place + 1:]


class KnownValuesTest(unittest.TestCase):
    def test_ones_complement_of_a_header(self):
        self.assertEqual(right(2, 10, HEADER), [1])
        self.assertEqual(right(2, 10, with_byte(HEADER, 8, 0x3F)), [0])
        self.assertEqual(right(2, 10, with_byte(HEADER, 11, 0x60)), [0])

    def test_crc_32c(self):
        self.assertEqual(right(0, 28, [0] * 28 + [0x8A, 0x91, 0x36, 0xAA]), [1])
        self.assertEqual(right(0, 28, [0] * 28 + [0xAA, 0x36, 0x91, 0x8A]), [0])
        self.assertEqual(right(0, 27, [0] * 28 + [0x8A, 0x91, 0x36, 0xAA]), [0])

    def test_adler_32(self):
        self.assertEqual(right(3, 0, [0, 4, 0, 1]), [1])
        self.assertEqual(right(3, 0, [0, 1, 0, 4]), [0])

    def test_ones_complement_as_put_would_make_it(self):
        # 0 and 65535 leave the same over, but put makes only one of them.
        self.assertEqual(right(2, 0, [255, 255]), [1])
        self.assertEqual(right(2, 0, [0, 0]), [0])
        self.assertEqual(right(2, 2, [0, 0, 255, 255]), [1])
        self.assertEqual(right(2, 2, [0, 0, 0, 0]), [0])
        self.assertEqual(right(2, 2, [255, 255, 0, 0]), [1])
        self.assertEqual(right(2, 2, [255, 255, 255, 255]), [0])

    def test_ones_complement_at_an_odd_place(self):
        # The sum's bytes lie there as they are, not the other way round.
        self.assertEqual(right(2, 1, [1, 254, 255]), [1])
        self.assertEqual(right(2, 1, [1, 255, 254]), [0])


class RightTest(unittest.TestCase):
    def test_what_put_made(self):
        for k in KINDS:
            for text in TEXTS:
                last = len(text) - SUM_LENGTH[k]
                for at in {0, 1, 2, last // 2, last // 2 + 1, last}:
                    if 0 <= at <= last:
                        with self.subTest(k=k, at=at, text=text):
                            self.assertEqual(right(k, at, put(k, at, list(text))[1:]), [1])
                            self.assertEqual(right(k, at, text_put(k, at, text)), [1])

    def test_one_byte_changed(self):
        text = [(11 * i + 5) % 256 for i in range(21)]
        for k in KINDS:
            for at in range(21 - SUM_LENGTH[k] + 1):
                made = text_put(k, at, text)
                for place in range(21):
                    for turn in (1, 128, 255):
                        with self.subTest(k=k, at=at, place=place, turn=turn):
                            self.assertEqual(right(k, at, with_byte(made, place, made[place] ^ turn)), [0])

    def test_right_is_just_what_put_leaves(self):
        for k in KINDS:
            for text in TEXTS:
                for at in (0, 1, 2, 7):
                    answer = put(k, at, list(text))
                    if answer != [-1]:
                        with self.subTest(k=k, at=at, text=text):
                            self.assertEqual(right(k, at, list(text)), [int(answer[1:] == text)])

    def test_text_just_as_long_as_its_sum(self):
        for k in KINDS:
            made = text_put(k, 0, [0] * SUM_LENGTH[k])
            with self.subTest(k=k):
                self.assertEqual(right(k, 0, made), [1])
                self.assertEqual(right(k, 0, with_byte(made, 0, made[0] ^ 1)), [0])
                self.assertEqual(right(k, 0, with_byte(made, -1 % len(made), made[-1] ^ 1)), [0])

    def test_longest_text(self):
        for k in KINDS:
            for at in (0, 32767, 65536 - SUM_LENGTH[k]):
                made = text_put(k, at, LONG)
                with self.subTest(k=k, at=at):
                    self.assertEqual(right(k, at, made), [1])
                    self.assertEqual(right(k, at, with_byte(made, 0, made[0] ^ 1)), [0])
                    self.assertEqual(right(k, at, with_byte(made, 65535, made[65535] ^ 1)), [0])


class RightRefusesTest(unittest.TestCase):
    def test_no_kind(self):
        for k in NO_KINDS:
            for at in (-1, 0, 5, 100):
                for text in ([], [0] * 20, [0] * 65537):
                    with self.subTest(k=k, at=at, length=len(text)):
                        self.assertEqual(right(k, at, text), [-1])

    def test_text_too_long(self):
        for k in KINDS:
            for length in (65537, 65538, 66000):
                for at in (0, 100, 65536 - SUM_LENGTH[k], length - SUM_LENGTH[k]):
                    with self.subTest(k=k, length=length, at=at):
                        self.assertEqual(right(k, at, [0] * length), [-1])

    def test_place_below_0(self):
        for k in KINDS:
            for at in (-1, -2, -4, -8, -20, -21, -2147483648):
                with self.subTest(k=k, at=at):
                    self.assertEqual(right(k, at, [0] * 20), [-1])

    def test_no_room(self):
        for k in KINDS:
            for at in (21 - SUM_LENGTH[k], 19, 20, 21, 2147483647):
                with self.subTest(k=k, at=at):
                    self.assertEqual(right(k, at, [0] * 20), [-1])

    def test_text_shorter_than_its_sum(self):
        for k in KINDS:
            for length in range(SUM_LENGTH[k]):
                for at in (-1, 0, 1):
                    with self.subTest(k=k, length=length, at=at):
                        self.assertEqual(right(k, at, [0] * length), [-1])

    def test_no_room_in_the_longest_text(self):
        for k in KINDS:
            with self.subTest(k=k):
                self.assertEqual(right(k, 65537 - SUM_LENGTH[k], LONG), [-1])


class RightKeepsNothingTest(unittest.TestCase):
    def test_text_is_as_it_was(self):
        for k in KINDS + (4,):
            for text in TEXTS + (LONG, [7] * 65537, HEADER):
                for at in (-1, 0, 1, 10):
                    handed = Sealed(text)
                    right(k, at, handed)
                    self.assertEqual(handed, text)

    def test_same_answer_again(self):
        for k in KINDS:
            made = text_put(k, 3, HEADER)
            right(k, 3, made).append(7)
            right(3 - k, 1, [255] * 9)
            right(k, 3, [255] * 20)
            right(k, -1, made)
            with self.subTest(k=k):
                self.assertEqual(right(k, 3, made), [1])

    def test_answers_plain_lists_of_whole_numbers(self):
        for k in KINDS + NO_KINDS:
            for at in (-1, 0, 1):
                for text in ([0] * 9, text_put(0, 0, [0] * 9)):
                    answer = right(k, at, text)
                    self.assertIs(type(answer), list)
                    self.assertEqual({type(number) for number in answer}, {int})


if __name__ == "__main__":
    unittest.main()
