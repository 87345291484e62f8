import unittest

from damagesums.check import found, of
from tests.reference import (
    BITS_KINDS, LONG, NO_BITS_KINDS, NO_STATES, STATES, TEXTS, WIDTH, TimedTest, bit_places, turned,
)

TEXT = list(b"nobody wants to read them again")
TOO_MANY = (65537, 65538, 2 ** 32, 2 ** 40, 2 ** 40 + 1, 2 ** 63, 2 ** 64 - 1)


def with_bits_turned(text, *places):
    text = list(text)
    for place in places:
        text[place // 8] ^= 1 << place % 8
    return text


def expected(k, places, difference):
    """What found answers by the places of all single bits."""
    place = places.get(turned(difference, WIDTH[k]))
    return [-2] if place is None else [0, place]


class KnownValuesTest(TimedTest):
    def test_crc_32c(self):
        # The byte 9 is 39 in hexadecimal, 8 is 38: bit 0 of the byte at place 8.
        self.assertEqual(found(0, of(0, list(b"123456788"))[1], 0xE3069283, 9), [0, 64])
        self.assertEqual(found(0, of(0, list(b"023456789"))[1], 0xE3069283, 9), [0, 0])
        self.assertEqual(found(0, of(0, list(b"123u56789"))[1], of(0, list(b"123456789"))[1], 9), [-2])

    def test_crc_64(self):
        self.assertEqual(found(1, of(1, list(b"123456788"))[1], 0x995DC9BBDF1939FA, 9), [0, 64])
        self.assertEqual(found(1, of(1, list(b"1234567x9"))[1], 0x995DC9BBDF1939FA, 9), [0, 8 * 7 + 6])

    def test_the_last_bit_makes_f(self):
        for n in (1, 2, 9, 65536):
            self.assertEqual(found(0, 0, 0x82F63B78, n), [0, 8 * n - 1])
            self.assertEqual(found(1, 0, 0xC96C5795D7870F42, n), [0, 8 * n - 1])


class FoundTest(TimedTest):
    def check(self, k, text, places):
        given = of(k, list(text))[1]
        for place in places:
            should = of(k, with_bits_turned(text, place))[1]
            with self.subTest(k=k, length=len(text), place=place):
                self.assertEqual(found(k, given, should, len(text)), [0, place])
                self.assertEqual(found(k, should, given, len(text)), [0, place])

    def test_every_bit(self):
        for k in BITS_KINDS:
            self.check(k, TEXT, range(8 * len(TEXT)))

    def test_first_last_and_between(self):
        for k in BITS_KINDS:
            for text in TEXTS:
                if text:
                    for byte in sorted({0, len(text) // 2, len(text) - 1}):
                        self.check(k, text, range(8 * byte, 8 * byte + 8))

    def test_one_byte(self):
        for k in BITS_KINDS:
            for c in (0, 1, 127, 128, 255):
                self.check(k, [c], range(8))

    def test_longest_text(self):
        for k in BITS_KINDS:
            self.check(k, LONG, list(range(8)) + [8 * 32768 + 3] + list(range(8 * 65535, 8 * 65536)))

    def test_turning_the_bit_makes_should(self):
        for k in BITS_KINDS:
            should = of(k, TEXT)[1]
            for place in range(0, 8 * len(TEXT), 5):
                damaged = with_bits_turned(TEXT, place)
                answer = found(k, of(k, damaged)[1], should, len(damaged))
                with self.subTest(k=k, place=place):
                    self.assertEqual(with_bits_turned(damaged, answer[1]), TEXT)

    def test_any_sums(self):
        # Which bit it is hangs on the difference of both alone.
        for k in BITS_KINDS:
            for n in (0, 1, 2, 9, 300):
                places = bit_places(k, n)
                differences = [turned(rest, WIDTH[k]) for rest in list(places)[::7]] + list(STATES[k])
                for s in STATES[k]:
                    for difference in differences:
                        with self.subTest(k=k, n=n, s=s, difference=difference):
                            answer = found(k, s, s ^ difference, n)
                            self.assertEqual(answer, expected(k, places, difference))

    def test_ends(self):
        for k in BITS_KINDS:
            top = 2 ** WIDTH[k] - 1
            for n in (0, 1, 2, 9, 65536):
                places = bit_places(k, n)
                for given in (0, top):
                    for should in (0, top):
                        with self.subTest(k=k, n=n, given=given, should=should):
                            self.assertEqual(found(k, given, should, n), expected(k, places, given ^ should))

    def test_no_two_bits_do_the_same(self):
        # So of several bits there is never more than one.
        for k in BITS_KINDS:
            self.assertEqual(len(bit_places(k, 65536)), 8 * 65536)


class FoundNoneTest(TimedTest):
    def test_no_bytes(self):
        for k in BITS_KINDS:
            for given in STATES[k]:
                for should in STATES[k]:
                    with self.subTest(k=k, given=given, should=should):
                        self.assertEqual(found(k, given, should, 0), [-2])

    def test_no_bytes_and_a_difference_of_f(self):
        self.assertEqual(found(0, 0, 0x82F63B78, 0), [-2])
        self.assertEqual(found(1, 0, 0xC96C5795D7870F42, 0), [-2])

    def test_alike(self):
        for k in BITS_KINDS:
            for s in STATES[k]:
                for n in (0, 1, 2, 9, 1000, 65536):
                    with self.subTest(k=k, s=s, n=n):
                        self.assertEqual(found(k, s, s, n), [-2])

    def test_two_bits_turned(self):
        for k in BITS_KINDS:
            places = bit_places(k, len(TEXT))
            given = of(k, TEXT)[1]
            for first in range(0, 8 * len(TEXT), 9):
                for second in range(first + 1, 8 * len(TEXT), 11):
                    should = of(k, with_bits_turned(TEXT, first, second))[1]
                    with self.subTest(k=k, first=first, second=second):
                        self.assertEqual(expected(k, places, given ^ should), [-2])
                        self.assertEqual(found(k, given, should, len(TEXT)), [-2])

    def test_two_bits_turned_in_the_longest_text(self):
        for k in BITS_KINDS:
            places = bit_places(k, 65536)
            given = of(k, LONG)[1]
            for first, second in ((0, 1), (0, 8 * 65536 - 1), (8 * 65536 - 2, 8 * 65536 - 1), (1000, 300000)):
                should = of(k, with_bits_turned(LONG, first, second))[1]
                with self.subTest(k=k, first=first, second=second):
                    self.assertEqual(expected(k, places, given ^ should), [-2])
                    self.assertEqual(found(k, given, should, 65536), [-2])

    def test_bit_just_ahead_of_the_text(self):
        for k in BITS_KINDS:
            for n in (0, 1, 2, 8, 30):
                text = TEXT[:n + 1]
                for bit in range(8):
                    given, should = of(k, text)[1], of(k, with_bits_turned(text, bit))[1]
                    with self.subTest(k=k, n=n, bit=bit):
                        self.assertEqual(found(k, given, should, n + 1), [0, bit])
                        self.assertEqual(found(k, given, should, n), [-2])


class FoundRefusesTest(TimedTest):
    def test_no_kind_by_bits(self):
        for k in NO_BITS_KINDS:
            for given in (0, 1, 2 ** 32, 2 ** 64 - 1):
                for should in (0, 1, 0x82F63B78, 2 ** 32, 2 ** 64 - 1):
                    for n in (0, 1, 9, 65536, 65537):
                        with self.subTest(k=k, given=given, should=should, n=n):
                            self.assertEqual(found(k, given, should, n), [-1])

    def test_no_sum(self):
        for s in NO_STATES[0]:
            for other in STATES[0] + (2 ** 32, s):
                for n in (0, 1, 9, 65536, 65537):
                    with self.subTest(s=s, other=other, n=n):
                        self.assertEqual(found(0, s, other, n), [-1])
                        self.assertEqual(found(0, other, s, n), [-1])

    def test_too_many_bytes(self):
        for k in BITS_KINDS:
            for s in STATES[k]:
                for n in TOO_MANY:
                    with self.subTest(k=k, s=s, n=n):
                        self.assertEqual(found(k, s, s, n), [-1])
                        self.assertEqual(found(k, s, s ^ 1, n), [-1])

    def test_too_many_bytes_where_a_bit_would_be_found(self):
        for n in TOO_MANY:
            with self.subTest(n=n):
                self.assertEqual(found(0, 0, 0x82F63B78, n), [-1])
                self.assertEqual(found(1, 0, 0xC96C5795D7870F42, n), [-1])

    def test_minus_1_ahead_of_minus_2(self):
        self.assertEqual(found(2, 0, 0, 0), [-1])
        self.assertEqual(found(-1, 5, 5, 9), [-1])
        self.assertEqual(found(0, 2 ** 32, 2 ** 32, 0), [-1])
        self.assertEqual(found(0, 0, 2 ** 32, 0), [-1])
        self.assertEqual(found(0, 7, 7, 65537), [-1])
        self.assertEqual(found(1, 7, 7, 2 ** 64 - 1), [-1])


class FoundKeepsNothingTest(TimedTest):
    def test_same_answer_again(self):
        for k in BITS_KINDS:
            for given in STATES[k]:
                for should in (0, 2 ** WIDTH[k] - 1, of(k, [1, 2, 3])[1], of(k, [1, 2, 7])[1]):
                    first = found(k, given, should, 3)
                    kept = list(first)
                    first.append(7)
                    found(1 - k, 0, 5, 12)
                    found(k, given, should, 65537)
                    with self.subTest(k=k, given=given, should=should):
                        self.assertEqual(found(k, given, should, 3), kept)

    def test_answers_plain_lists_of_whole_numbers(self):
        for k in BITS_KINDS + NO_BITS_KINDS:
            for should in (0, 1, 0x82F63B78, 0xC96C5795D7870F42):
                answer = found(k, 0, should, 3)
                self.assertIs(type(answer), list)
                self.assertEqual({type(number) for number in answer}, {int})


if __name__ == "__main__":
    unittest.main()
