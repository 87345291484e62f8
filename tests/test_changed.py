import unittest

from damagesums.check import add, begin, changed, of, sum_of
from tests.reference import (
    EMPTY, FAR_LENGTHS, FARTHEST, KINDS, LONG, NO_KINDS, NO_STATES, STATES, TOO_FAR, Sealed, TimedTest, far_zeros,
    ones_state, state,
)

CHANGES = (
    ([], []), ([0], [0]), ([0], [1]), ([0], [255]), ([255], [0]), ([7], [7]), ([1, 2], [3, 4]), ([255, 255], [0, 0]),
    ([0, 0], [255, 255]), ([0, 1], [1, 0]), ([9, 9, 9], [0, 255, 0]), ([0, 0, 0], [1, 2, 3]),
    (list(b"123456789"), list(b"987654321")), ([255] * 40, [0] * 40), ([0] * 41, [255] * 41),
)
HEADS = ([], [0], [0, 0], [17], [255, 255], [1, 2, 3], [255] * 10)
TAILS = ([], [0], [200], [0, 0], [255, 255], [5, 6, 7], [(3 * i) % 256 for i in range(300)])


def never_0(k, s):
    """The state that is asked for: of kind 2 s is 65535 in place of 0."""
    if k == 2 and s % 65536 == 0:
        return s + 65535
    return s


def ones_text_ahead(s, old, n):
    """What stands ahead of old in a text with the state s of kind 2, with n bytes of 0 behind old."""
    odd = (s // 65536 + len(old) + n) % 2
    behind = ones_state(0, [0] * odd + old + [0] * (n % 2)) % 65536
    ahead = (s % 65536 - behind) % 65535
    if ahead == 0 and behind == 0:
        ahead = s % 65536
    return list(ahead.to_bytes(2, "big")) + [0] * odd


class KnownValuesTest(TimedTest):
    def test_crc_32c(self):
        self.assertEqual(changed(0, add(0, 0, list(b"12x456789"))[1], 6, [120], [51]), [0, 0xE3069283])

    def test_crc_64(self):
        self.assertEqual(changed(1, add(1, 0, list(b"12x456789"))[1], 6, [120], [51]), [0, 0x995DC9BBDF1939FA])

    def test_ones_complement(self):
        self.assertEqual(changed(2, 0x0406, 0, [4], [5]), [0, 0x0407])
        self.assertEqual(changed(2, 0x0406, 1, [3], [5]), [0, 0x0606])
        self.assertEqual(changed(2, 65536 + 0x0402, 0, [3], [4]), [0, 65536 + 0x0502])
        self.assertEqual(changed(2, 65536 + 0x0402, 1, [2], [4]), [0, 65536 + 0x0404])

    def test_ones_complement_65535_in_place_of_0(self):
        self.assertEqual(changed(2, 1, 0, [0, 1], [0, 0]), [0, 65535])
        self.assertEqual(changed(2, 65536 + 256, 0, [1], [0]), [0, 131071])
        self.assertEqual(changed(2, 0, 0, [0, 0], [0, 0]), [0, 65535])
        self.assertEqual(changed(2, 65536, 0, [0], [0]), [0, 131071])
        self.assertEqual(changed(2, 0, 0, [], []), [0, 65535])
        self.assertEqual(changed(2, 65536, 0, [], []), [0, 131071])
        self.assertEqual(changed(2, 0, FARTHEST, [], []), [0, 65535])
        self.assertEqual(changed(2, 65535, 2, [], []), [0, 65535])
        self.assertEqual(changed(2, 131071, 2, [], []), [0, 131071])
        self.assertEqual(changed(2, 65535, 0, [255, 255], [0, 0]), [0, 65535])
        self.assertEqual(changed(2, 0, 0, [0, 0], [255, 255]), [0, 65535])
        self.assertEqual(changed(2, 65534, 0, [1], [2]), [0, 65535])
        self.assertEqual(changed(2, 65535, 0, [1], [2]), [0, 1])

    def test_ones_complement_time_to_live(self):
        header = [0x45, 0, 0, 0x73, 0, 0, 0x40, 0, 0x40, 0x11, 0, 0, 0xC0, 0xA8, 0, 1, 0xC0, 0xA8, 0, 0xC7]
        s = add(2, 0, header)[1]
        self.assertEqual(sum_of(2, s), [0, 0xB861])
        header[8] = 0x3F
        self.assertEqual(sum_of(2, changed(2, s, 11, [0x40], [0x3F])[1]), of(2, header))
        self.assertEqual(of(2, header), [0, 0xB961])

    def test_adler_32(self):
        self.assertEqual(changed(3, add(3, 1, list(b"Wikixedia"))[1], 4, [120], [112]), [0, 0x11E60398])
        self.assertEqual(changed(3, 1, 0, [0], [255]), [0, 65536 * 255 + 256])
        self.assertEqual(changed(3, 65536 * 255 + 256, 0, [255], [0]), [0, 1])
        self.assertEqual(changed(3, 0, 65521, [1], [0]), [0, 65536 * 65520 + 65520])


class ChangedTest(TimedTest):
    def test_new_in_the_place_of_old(self):
        for k in KINDS:
            for head in HEADS:
                for tail in TAILS:
                    for old, new in CHANGES:
                        with self.subTest(k=k, head=head, tail=tail, old=old, new=new):
                            s = state(k, EMPTY[k], head + old + tail)
                            expected = never_0(k, state(k, EMPTY[k], head + new + tail))
                            self.assertEqual(changed(k, s, len(tail), list(old), list(new)), [0, expected])

    def test_as_add_of_the_text(self):
        for k in KINDS:
            for head in HEADS:
                with self.subTest(k=k, head=head):
                    s = add(k, begin(k)[1], head + [1, 2, 3] + [4] * 20)[1]
                    self.assertEqual(changed(k, s, 20, [1, 2, 3], [3, 2, 0]),
                                     add(k, begin(k)[1], head + [3, 2, 0] + [4] * 20))

    def test_many_bytes_behind(self):
        for k in KINDS:
            for at in (0, 1, 2, 777):
                with self.subTest(k=k, at=at):
                    new = [255 - c for c in LONG[at:at + 9]]
                    text = LONG[:at] + new + LONG[at + 9:]
                    answer = changed(k, state(k, EMPTY[k], LONG), 65536 - at - 9, LONG[at:at + 9], new)
                    self.assertEqual(answer, [0, state(k, EMPTY[k], text)])

    def test_longest_old_and_new(self):
        new = [255 - c for c in LONG]
        for k in KINDS:
            for head, tail in (([], []), ([1], []), ([], [1]), ([1, 2, 3], [4, 5])):
                with self.subTest(k=k, head=head, tail=tail):
                    s = state(k, EMPTY[k], head + LONG + tail)
                    expected = state(k, EMPTY[k], head + new + tail)
                    self.assertEqual(changed(k, s, len(tail), LONG, new), [0, expected])

    def test_no_change_leaves_the_state(self):
        for k in KINDS:
            for s in STATES[k]:
                for n in (0, 1, 2, 1000, FARTHEST - 1, FARTHEST):
                    for old in ([], [0], [0, 0, 0]):
                        with self.subTest(k=k, s=s, n=n, old=old):
                            self.assertEqual(changed(k, s, n, old, list(old)), [0, never_0(k, s)])

    def test_any_state(self):
        for k in (0, 1, 3):
            for s in STATES[k]:
                for n in (0, 1, 2, 33, FARTHEST):
                    for old, new in CHANGES:
                        with self.subTest(k=k, s=s, n=n, old=old, new=new):
                            was = far_zeros(k, state(k, EMPTY[k], old), n)
                            now = far_zeros(k, state(k, EMPTY[k], new), n)
                            expected = s ^ was ^ now
                            if k == 3:
                                upper = (s // 65536 - was // 65536 + now // 65536) % 65521
                                lower = (s % 65536 - was % 65536 + now % 65536) % 65521
                                expected = 65536 * upper + lower
                            self.assertEqual(changed(k, s, n, list(old), list(new)), [0, expected])

    def test_any_state_of_ones_complement(self):
        for s in STATES[2]:
            for n in (0, 1, 2, 33, FARTHEST - 1, FARTHEST):
                for old, new in CHANGES:
                    if s % 65536 == 0 and any(old):
                        continue
                    head = ones_text_ahead(s, old, n)
                    tail = [0] * (n % 2)
                    with self.subTest(s=s, n=n, old=old, new=new):
                        self.assertEqual(ones_state(0, head + old + tail), s)
                        expected = never_0(2, ones_state(0, head + new + tail))
                        self.assertEqual(changed(2, s, n, list(old), list(new)), [0, expected])


class FarChangedTest(TimedTest):
    def test_far_bytes_of_0_behind(self):
        for k in KINDS:
            for head in HEADS:
                for old, new in CHANGES:
                    for n in FAR_LENGTHS:
                        with self.subTest(k=k, head=head, old=old, new=new, n=n):
                            s = far_zeros(k, state(k, EMPTY[k], head + old), n)
                            expected = never_0(k, far_zeros(k, state(k, EMPTY[k], head + new), n))
                            self.assertEqual(changed(k, s, n, list(old), list(new)), [0, expected])

    def test_longest_old_and_new_farthest_ahead(self):
        new = [255 - c for c in LONG]
        for k in KINDS:
            with self.subTest(k=k):
                s = far_zeros(k, state(k, EMPTY[k], LONG), FARTHEST)
                expected = far_zeros(k, state(k, EMPTY[k], new), FARTHEST)
                self.assertEqual(changed(k, s, FARTHEST, LONG, new), [0, expected])

    def test_there_and_back(self):
        for k in KINDS:
            for s in STATES[k]:
                for n in (0, 1, FARTHEST - 1, FARTHEST):
                    there = changed(k, s, n, [1, 2, 3], [250, 2, 0])[1]
                    with self.subTest(k=k, s=s, n=n):
                        self.assertEqual(changed(k, there, n, [250, 2, 0], [1, 2, 3]), [0, never_0(k, s)])


class ChangedRefusesTest(TimedTest):
    def test_no_kind(self):
        for k in NO_KINDS:
            for s in (0, 1, 131072, 2 ** 64 - 1):
                for n in (0, 1, FARTHEST, FARTHEST + 1):
                    with self.subTest(k=k, s=s, n=n):
                        self.assertEqual(changed(k, s, n, [1], [2]), [-1])
                        self.assertEqual(changed(k, s, n, [1], []), [-1])

    def test_no_state(self):
        for k in KINDS:
            for s in NO_STATES[k]:
                for n in (0, 1, FARTHEST, FARTHEST + 1):
                    with self.subTest(k=k, s=s, n=n):
                        self.assertEqual(changed(k, s, n, [1], [2]), [-1])
                        self.assertEqual(changed(k, s, n, [], []), [-1])

    def test_too_far(self):
        for k in KINDS:
            for s in STATES[k]:
                for n in TOO_FAR:
                    with self.subTest(k=k, s=s, n=n):
                        self.assertEqual(changed(k, s, n, [1], [2]), [-1])
                        self.assertEqual(changed(k, s, n, [], []), [-1])

    def test_not_as_long(self):
        for k in KINDS:
            for old, new in (([], [1]), ([1], []), ([1, 2], [1]), ([1], [1, 2]), ([0] * 65536, [0] * 65535)):
                with self.subTest(k=k, old=len(old), new=len(new)):
                    self.assertEqual(changed(k, EMPTY[k], 4, old, new), [-1])

    def test_too_long(self):
        for k in KINDS:
            for old, new in ((65537, 65537), (66000, 66000), (65537, 65536), (65536, 65537), (65537, 0), (0, 65537)):
                with self.subTest(k=k, old=old, new=new):
                    self.assertEqual(changed(k, EMPTY[k], 4, [0] * old, [0] * new), [-1])


class ChangedKeepsNothingTest(TimedTest):
    def test_old_and_new_are_as_they_were(self):
        for k in KINDS + (4,):
            for old, new in CHANGES + ((LONG, LONG[::-1]), ([1], [1, 2]), ([7] * 65537, [8] * 65537)):
                handed_old, handed_new = Sealed(old), Sealed(new)
                changed(k, 1, 5, handed_old, handed_new)
                self.assertEqual(handed_old, old)
                self.assertEqual(handed_new, new)

    def test_same_answer_again(self):
        for k in KINDS:
            for s in STATES[k]:
                for n in (0, 1, FARTHEST):
                    first = changed(k, s, n, [1, 2, 3], [4, 5, 6])
                    kept = list(first)
                    first.append(7)
                    changed(3 - k, EMPTY[3 - k], 12, [9], [8])
                    changed(k, s, n, [1], [])
                    with self.subTest(k=k, s=s, n=n):
                        self.assertEqual(changed(k, s, n, [1, 2, 3], [4, 5, 6]), kept)

    def test_answers_plain_lists_of_whole_numbers(self):
        for k in KINDS + NO_KINDS:
            for n in (0, 1, FARTHEST, FARTHEST + 1):
                answer = changed(k, 1, n, [1], [2])
                self.assertIs(type(answer), list)
                self.assertEqual({type(number) for number in answer}, {int})


if __name__ == "__main__":
    unittest.main()
