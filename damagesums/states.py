"""States of the four kinds, and how bytes and sums are reckoned with them."""

ONES = 2
ADLER = 3
HIGHEST_KIND = 3

# By kind, for the kinds by bits alone: F and 2^w - 1.
FEEDBACK = (0x82F63B78, 0xC96C5795D7870F42)
ALL_BITS = (0xFFFFFFFF, 0xFFFFFFFFFFFFFFFF)

HALF = 65536
ONES_MODULUS = 65535
ONES_HIGHEST_STATE = 131071
ADLER_MODULUS = 65521


def is_kind(k):
    return 0 <= k <= HIGHEST_KIND


def is_state(k, s):
    if k == ONES:
        return 0 <= s <= ONES_HIGHEST_STATE
    if k == ADLER:
        return 0 <= s and s % HALF < ADLER_MODULUS and s // HALF < ADLER_MODULUS
    return 0 <= s <= ALL_BITS[k]


def empty_state(k):
    if k == ADLER:
        return 1
    return 0


def state_behind(k, s, text):
    """The state of s's text with this text behind it."""
    if k == ONES:
        return ones_behind(s, text)
    if k == ADLER:
        return adler_behind(s, text)
    return bits_behind(k, s, text)


def sum_of_state(k, s):
    if k == ONES:
        return ONES_MODULUS - s % HALF
    return s


def bits_behind(k, s, text):
    # A state has all bits turned once more than the x that bytes go by.
    x = s ^ ALL_BITS[k]
    for c in text:
        x = eight_bits_on(x ^ c, FEEDBACK[k])
    return x ^ ALL_BITS[k]


def eight_bits_on(x, feedback):
    for step in range(8):
        x = one_bit_on(x, feedback)
    return x


def one_bit_on(x, feedback):
    if x % 2 == 1:
        return (x // 2) ^ feedback
    return x // 2


def ones_behind(s, text):
    total = s % HALF
    # Behind an odd text the first byte is the lower one of a number begun there.
    odd = s // HALF
    for c in text:
        if odd == 1:
            total = total + c
        else:
            total = total + 256 * c
        odd = 1 - odd
    return ones_number(total) + HALF * odd


def ones_number(total):
    # A total of 0 alone gives 0: every other multiple of the modulus gives 65535.
    if total == 0:
        return 0
    return (total - 1) % ONES_MODULUS + 1


def adler_behind(s, text):
    a = s % HALF
    b = s // HALF
    for c in text:
        a = (a + c) % ADLER_MODULUS
        b = (b + a) % ADLER_MODULUS
    return HALF * b + a
