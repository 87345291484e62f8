import unittest

from damagesums.check import add, table
from tests.reference import BITS_KINDS, NO_BITS_KINDS, STATES, TEXTS, WIDTH, zero_bytes_by

FEEDBACK = (0x82F63B78, 0xC96C5795D7870F42)


def eight_bits_on(k, x):
    """The document's own words, bit by bit."""
    for step in range(8):
        x = x // 2 ^ (FEEDBACK[k] if x % 2 == 1 else 0)
    return x


class KnownValuesTest(unittest.TestCase):
    def test_crc_32c(self):
        self.assertEqual(table(0, 0), [0, 0])
        self.assertEqual(table(0, 1), [0, 0xF26B8303])
        self.assertEqual(table(0, 2), [0, 0xE13B70F7])
        self.assertEqual(table(0, 128), [0, 0x82F63B78])
        self.assertEqual(table(0, 255), [0, 0xAD7D5351])

    def test_crc_64(self):
        self.assertEqual(table(1, 0), [0, 0])
        self.assertEqual(table(1, 1), [0, 0xB32E4CBE03A75F6F])
        self.assertEqual(table(1, 2), [0, 0xF4843657A840A05B])
        self.assertEqual(table(1, 128), [0, 0xC96C5795D7870F42])


class TableTest(unittest.TestCase):
    def test_every_number(self):
        for k in BITS_KINDS:
            for i in range(256):
                with self.subTest(k=k, i=i):
                    self.assertEqual(table(k, i), [0, eight_bits_on(k, i)])
                    self.assertEqual(table(k, i), [0, zero_bytes_by(k, i, 1)])

    def test_sums_by_the_table(self):
        for k in BITS_KINDS:
            numbers = [table(k, i)[1] for i in range(256)]
            top = 2 ** WIDTH[k] - 1
            for s in STATES[k]:
                for text in TEXTS:
                    x = s ^ top
                    for c in text:
                        x = x // 256 ^ numbers[(x ^ c) % 256]
                    with self.subTest(k=k, s=s, text=text):
                        self.assertEqual(add(k, s, list(text)), [0, x ^ top])


class TableRefusesTest(unittest.TestCase):
    def test_no_kind_by_bits(self):
        for k in NO_BITS_KINDS:
            for i in (-1, 0, 1, 255, 256):
                with self.subTest(k=k, i=i):
                    self.assertEqual(table(k, i), [-1])

    def test_not_from_0_to_255(self):
        for k in BITS_KINDS:
            for i in (-2147483648, -256, -255, -2, -1, 256, 257, 511, 65536, 2147483647):
                with self.subTest(k=k, i=i):
                    self.assertEqual(table(k, i), [-1])


class TableKeepsNothingTest(unittest.TestCase):
    def test_same_answer_again(self):
        for k in BITS_KINDS:
            for i in (0, 1, 77, 255):
                first = table(k, i)
                kept = list(first)
                first.append(7)
                table(1 - k, i)
                table(k, 256)
                with self.subTest(k=k, i=i):
                    self.assertEqual(table(k, i), kept)

    def test_answers_plain_lists_of_whole_numbers(self):
        for k in BITS_KINDS + NO_BITS_KINDS:
            for i in (-1, 0, 1, 255, 256):
                answer = table(k, i)
                self.assertIs(type(answer), list)
                self.assertEqual({type(number) for number in answer}, {int})


if __name__ == "__main__":
    unittest.main()
