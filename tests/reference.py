"""States reckoned by other ways than the package's: long division, one big number, zlib."""

import zlib

KINDS = (0, 1, 2, 3)
NO_KINDS = (-2147483648, -2, -1, 4, 5, 2147483647)
EMPTY = (0, 0, 0, 1)
WIDTH = (32, 64)
# The divisors as polynomials, highest power first, its leading 1 included.
DIVISOR = (0x11EDC6F41, 0x142F0E1EBA9EA3693)

STATES = (
    (0, 1, 2, 0x80000000, 0xE3069283, 2 ** 32 - 2, 2 ** 32 - 1),
    (0, 1, 2 ** 32, 2 ** 63, 0x995DC9BBDF1939FA, 2 ** 64 - 2, 2 ** 64 - 1),
    (0, 1, 255, 256, 65534, 65535, 65536, 65537, 65536 + 256, 131070, 131071),
    (0, 1, 65520, 65536, 65536 * 65520, 65536 * 65520 + 1, 65536 * 65520 + 65520, 0x11E60398),
)
NO_STATES = (
    (2 ** 32, 2 ** 32 + 1, 2 ** 63, 2 ** 64 - 1),
    (),
    (131072, 131073, 2 ** 32, 2 ** 64 - 1),
    (
        65521, 65535, 65536 + 65521, 65536 * 65520 + 65521, 65536 * 65520 + 65535,
        65536 * 65521, 65536 * 65521 + 65520, 65536 * 65535, 2 ** 32 - 1,
        2 ** 32, 2 ** 32 + 1, 2 ** 48, 2 ** 64 - 1,
    ),
)
TEXTS = (
    [], [0], [1], [255], [0, 0], [0, 1], [1, 0], [255, 255], [255, 254], [128, 127], [0, 0, 0], [255, 255, 0],
    [0, 255, 255], [255, 255, 255], [255] * 16, [255] * 17, list(b"123456789"), list(b"Wikipedia"),
    list(range(256)), list(range(255)), [(7 * i + i // 256) % 256 for i in range(1001)],
)


def turned(x, width):
    return int(format(x, "0{}b".format(width))[::-1], 2)


def divided(x, k):
    while x.bit_length() > WIDTH[k]:
        x ^= DIVISOR[k] << (x.bit_length() - WIDTH[k] - 1)
    return x


def bits_state(k, s, text):
    width = WIDTH[k]
    rest = turned(s ^ (2 ** width - 1), width)
    for c in text:
        rest = divided((rest << 8) ^ (turned(c, 8) << width), k)
    return turned(rest, width) ^ (2 ** width - 1)


def ones_text(s):
    """A text that has the state s of kind 2."""
    return [s % 65536 // 256, s % 256] + [0] * (s // 65536)


def ones_state(s, text):
    whole = ones_text(s) + list(text)
    odd = len(whole) % 2
    # 65536 leaves 1 over by 65535, so the text as one number leaves over what its total does.
    number = int.from_bytes(bytes(whole + [0] * odd), "big")
    left = number % 65535
    if left == 0 and number > 0:
        left = 65535
    return left + 65536 * odd


def state(k, s, text):
    if k == 2:
        return ones_state(s, text)
    if k == 3:
        return zlib.adler32(bytes(text), s)
    return bits_state(k, s, text)
