"""States reckoned by other ways than the package's: long division, one big number, zlib."""

import signal
import unittest
import zlib

KINDS = (0, 1, 2, 3)
NO_KINDS = (-2147483648, -2, -1, 4, 5, 2147483647)
BITS_KINDS = (0, 1)
NO_BITS_KINDS = NO_KINDS + (2, 3)
EMPTY = (0, 0, 0, 1)
SUM_LENGTH = (4, 8, 2, 4)
WIDTH = (32, 64)
# The divisors as polynomials, highest power first, its leading 1 included.
DIVISOR = (0x11EDC6F41, 0x142F0E1EBA9EA3693)

STATES = (
    (0, 1, 2, 0x80000000, 0xE3069283, 2 ** 32 - 2, 2 ** 32 - 1),
    (0, 1, 2 ** 32, 2 ** 63, 0x995DC9BBDF1939FA, 2 ** 64 - 2, 2 ** 64 - 1),
    (0, 1, 255, 256, 65534, 65535, 65536, 65537, 65536 + 256, 131070, 131071),
    (0, 1, 65520, 65536, 65536 * 65520, 65536 * 65520 + 1, 65536 * 65520 + 65520, 0x11E60398),
)
NO_STATES = (
    (2 ** 32, 2 ** 32 + 1, 2 ** 63, 2 ** 64 - 1),
    (),
    (131072, 131073, 2 ** 32, 2 ** 64 - 1),
    (
        65521, 65535, 65536 + 65521, 65536 * 65520 + 65521, 65536 * 65520 + 65535,
        65536 * 65521, 65536 * 65521 + 65520, 65536 * 65535, 2 ** 32 - 1,
        2 ** 32, 2 ** 32 + 1, 2 ** 48, 2 ** 64 - 1,
    ),
)
FARTHEST = 2 ** 40
TOO_FAR = (2 ** 40 + 1, 2 ** 40 + 2, 2 ** 41, 2 ** 63, 2 ** 64 - 2, 2 ** 64 - 1)
LENGTHS = (0, 1, 2, 3, 4, 5, 7, 8, 63, 64, 255, 256, 1000, 1001, 65520, 65521, 65522, 65535, 65536)
FAR_LENGTHS = (2 ** 20, 2 ** 31 - 1, 2 ** 32, 3 * 2 ** 32 + 1, 65521 * 65521, 2 ** 40 - 2, 2 ** 40 - 1, FARTHEST)
TEXTS = (
    [], [0], [1], [255], [0, 0], [0, 1], [1, 0], [255, 255], [255, 254], [128, 127], [0, 0, 0], [255, 255, 0],
    [0, 255, 255], [255, 255, 255], [255] * 16, [255] * 17, list(b"123456789"), list(b"Wikipedia"),
    list(range(256)), list(range(255)), [(7 * i + i // 256) % 256 for i in range(1001)],
)
LONG = [(31 * i + i // 256) % 256 for i in range(65536)]


def turned(x, width):
    return int(format(x, "0{}b".format(width))[::-1], 2)


def divided(x, k):
    while x.bit_length() > WIDTH[k]:
        x ^= DIVISOR[k] << (x.bit_length() - WIDTH[k] - 1)
    return x


def bits_state(k, s, text):
    width = WIDTH[k]
    rest = turned(s ^ (2 ** width - 1), width)
    for c in text:
        rest = divided((rest << 8) ^ (turned(c, 8) << width), k)
    return turned(rest, width) ^ (2 ** width - 1)


def ones_text(s):
    """A text that has the state s of kind 2."""
    return [s % 65536 // 256, s % 256] + [0] * (s // 65536)


def ones_state(s, text):
    whole = ones_text(s) + list(text)
    odd = len(whole) % 2
    # 65536 leaves 1 over by 65535, so the text as one number leaves over what its total does.
    number = int.from_bytes(bytes(whole + [0] * odd), "big")
    left = number % 65535
    if left == 0 and number > 0:
        left = 65535
    return left + 65536 * odd


def state(k, s, text):
    if k == 2:
        return ones_state(s, text)
    if k == 3:
        return zlib.adler32(bytes(text), s)
    return bits_state(k, s, text)


def text_sum(k, text):
    s = state(k, EMPTY[k], text)
    if k == 2:
        return 65535 - s % 65536
    return s


def text_put(k, at, text):
    """The text with its sum's bytes at place at."""
    length = SUM_LENGTH[k]
    whole = list(text)
    whole[at:at + length] = [0] * length
    whole[at:at + length] = text_sum(k, whole).to_bytes(length, "big")
    return whole


def carryless(x, y):
    total = 0
    while y:
        if y & 1:
            total ^= x
        x <<= 1
        y >>= 1
    return total


def zero_bytes_by(k, x, n):
    """What n bytes of 0 make of x: times the power 8 n, by the digits of n from the highest."""
    power = 1
    for digit in format(8 * n, "b"):
        power = divided(carryless(power, power), k)
        if digit == "1":
            power = divided(power << 1, k)
    return turned(divided(carryless(turned(x, WIDTH[k]), power), k), WIDTH[k])


def both(k, a, b, n):
    """What the document's own words make of a and b, whether or not a text of n bytes has b."""
    if k < 2:
        return zero_bytes_by(k, a, n) ^ b
    if k == 2:
        total = a % 65536 + b % 65536 * (256 if a >= 65536 else 1)
        return ones_state(0, total.to_bytes(4, "big")) + 65536 * ((a // 65536 + n) % 2)
    lower = (a % 65536 + b % 65536 + 65520) % 65521
    upper = (a // 65536 + b // 65536 + n * (a % 65536 + 65520)) % 65521
    return 65536 * upper + lower


def bit_places(k, n):
    """By the difference of sums that one turned bit of n bytes makes, from the highest power down: its place."""
    places = {}
    rest = divided(1 << WIDTH[k], k)
    for place in range(8 * n - 1, -1, -1):
        places.setdefault(rest, place)
        rest = divided(rest << 1, k)
    return places


def far_zeros(k, s, n):
    if k < 2:
        top = 2 ** WIDTH[k] - 1
        return zero_bytes_by(k, s ^ top, n) ^ top
    if k == 2:
        return ones_state(s, [0] * (n % 2))
    # Behind 65521 bytes of 0 the state of kind 3 is as it was.
    return state(3, s, [0] * (n % 65521))


def fits(k, s, n):
    return k != 2 or (s >= 65536) == (n % 2 == 1)


class Sealed(list):
    """A list that fails as soon as it is to be changed, be it for a while alone."""

    def change(self, *values, **named):
        raise AssertionError("what was handed in is changed")

    append = clear = extend = insert = pop = remove = reverse = sort = change
    __setitem__ = __delitem__ = __iadd__ = __imul__ = change


class TimedTest(unittest.TestCase):
    """An answer that would take a step for each of 2^40 bytes must fail, not hang."""

    def setUp(self):
        before = signal.signal(signal.SIGALRM, self.too_late)
        self.addCleanup(signal.signal, signal.SIGALRM, before)
        signal.alarm(60)
        self.addCleanup(signal.alarm, 0)

    def too_late(self, number, frame):
        # An ordinary failure would end one subtest alone, and the next one would hang.
        raise KeyboardInterrupt("no answer in reasonable time")
