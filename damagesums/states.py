"""States of the four kinds, and how bytes and sums are reckoned with them."""

ONES = 2
ADLER = 3
HIGHEST_KIND = 3

# By kind: how many bytes a sum has.
SUM_LENGTH = (4, 8, 2, 4)

# By kind, for the kinds by bits alone: F, 2^w - 1 and 2^(w - 1).
FEEDBACK = (0x82F63B78, 0xC96C5795D7870F42)
ALL_BITS = (0xFFFFFFFF, 0xFFFFFFFFFFFFFFFF)
TOP_BIT = (0x80000000, 0x8000000000000000)

HALF = 65536
ONES_MODULUS = 65535
ONES_HIGHEST_STATE = 131071
ADLER_MODULUS = 65521


def is_kind(k):
    return 0 <= k <= HIGHEST_KIND


def is_by_bits(k):
    return 0 <= k < ONES


def is_state(k, s):
    if k == ONES:
        return 0 <= s <= ONES_HIGHEST_STATE
    if k == ADLER:
        return 0 <= s and s % HALF < ADLER_MODULUS and s // HALF < ADLER_MODULUS
    return 0 <= s <= ALL_BITS[k]


def empty_state(k):
    if k == ADLER:
        return 1
    return 0


def state_of_text(k, text):
    return state_behind(k, empty_state(k), text)


def state_behind(k, s, text):
    """The state of s's text with this text behind it."""
    if k == ONES:
        return ones_behind(s, text)
    if k == ADLER:
        return adler_behind(s, text)
    return bits_behind(k, s, text)


def sum_of_state(k, s):
    if k == ONES:
        return ONES_MODULUS - s % HALF
    return s


def sum_length(k):
    return SUM_LENGTH[k]


def sum_bytes(k, at, text):
    """The bytes, the highest first, of the sum of the text with bytes of 0 at place at."""
    length = sum_length(k)
    blank = text[:at] + [0] * length + text[at + length:]
    number = sum_of_state(k, state_of_text(k, blank))
    return list(reversed(lowest_first(number, length)))


def lowest_first(number, length):
    """So many bytes of the number, the lowest first."""
    parts = []
    for place in range(length):
        parts.append(number % 256)
        number = number // 256
    return parts


def can_have_length(k, s, n):
    """Whether s leaves open that its text has n bytes, by odd or even."""
    return k != ONES or s // HALF == n % 2


def state_of_both(k, a, b, n):
    """The state of a's text with b's text, of n bytes, behind it."""
    if k == ONES:
        return ones_of_both(a, b, n)
    if k == ADLER:
        return adler_of_both(a, b, n)
    return zero_bytes_on(k, a, n) ^ b


def state_of_all(k, each, texts):
    """The state of all texts, one behind the other, from the state of each."""
    whole = empty_state(k)
    for s, text in zip(each, texts):
        whole = state_of_both(k, whole, s, len(text))
    return whole


def zeros_behind(k, s, n):
    """The state of s's text with n bytes of 0 behind it."""
    if k == ONES:
        return s % HALF + HALF * ((s // HALF + n) % 2)
    if k == ADLER:
        return adler_zeros_behind(s, n)
    return zero_bytes_on(k, s ^ ALL_BITS[k], n) ^ ALL_BITS[k]


def state_changed(k, s, n, old, new):
    """The state of s's text with new in the place of old, which has n bytes behind it."""
    if k == ONES:
        return ones_changed(s, n, old, new)
    if k == ADLER:
        return adler_changed(s, n, old, new)
    return bits_changed(k, s, n, old, new)


def bits_behind(k, s, text):
    # A state has all bits turned once more than the x that bytes go by.
    return bytes_by(k, s ^ ALL_BITS[k], text) ^ ALL_BITS[k]


def bits_changed(k, s, n, old, new):
    # Exclusive-or of two texts goes by as exclusive-or of both: what is ahead of old and behind it falls out.
    turned = [was ^ now for was, now in zip(old, new)]
    return s ^ zero_bytes_on(k, bytes_by(k, 0, turned), n)


def filling_bytes(k, s, want):
    """The bytes, as many as a sum has, which make the state want behind s's text."""
    length = sum_length(k)
    x = want ^ ALL_BITS[k]
    for step in range(8 * length):
        x = one_bit_back(k, x)
    # What is put in higher up has come down unchanged when its byte goes by: all bytes may be put in at once, first.
    return lowest_first(x ^ s ^ ALL_BITS[k], length)


def turned_bit(k, difference, n):
    """The place of the bit of n bytes that makes this difference of sums when it turns; None if there is none."""
    # The last bit of all puts F in, and each one ahead of it goes one bit on more: the nearest to the end comes first.
    x = FEEDBACK[k]
    for ahead in range(8 * n):
        if x == difference:
            return 8 * n - 1 - ahead
        x = one_bit_on(x, FEEDBACK[k])
    return None


def table_number(k, i):
    return eight_bits_on(i, FEEDBACK[k])


def bytes_by(k, x, text):
    """What the text's bytes, going by in order, make of x."""
    for c in text:
        x = eight_bits_on(x ^ c, FEEDBACK[k])
    return x


def eight_bits_on(x, feedback):
    for step in range(8):
        x = one_bit_on(x, feedback)
    return x


def one_bit_on(x, feedback):
    if x % 2 == 1:
        return (x // 2) ^ feedback
    return x // 2


def one_bit_back(k, x):
    # F has the top bit and a half has not: the top bit tells whether F was put in, and so what the lowest bit was.
    if x >= TOP_BIT[k]:
        return 2 * (x ^ FEEDBACK[k]) + 1
    return 2 * x


def zero_bytes_on(k, x, n):
    """What n bytes of 0, going by, make of x."""
    # A byte of 0 goes by as a multiplication: by squares n may be far too many to go by one by one.
    power = eight_bits_on(TOP_BIT[k], FEEDBACK[k])
    while n > 0:
        if n % 2 == 1:
            x = product(k, x, power)
        power = product(k, power, power)
        n = n // 2
    return x


def product(k, x, y):
    # The top bit stands for 1 and each lower bit for one bit on, so x is a sum of such powers.
    total = 0
    bit = TOP_BIT[k]
    while bit > 0:
        if (x & bit) != 0:
            total = total ^ y
        y = one_bit_on(y, FEEDBACK[k])
        bit = bit // 2
    return total


def ones_behind(s, text):
    odd = s // HALF
    return ones_number(s % HALF + ones_total(odd, text)) + HALF * ((odd + len(text)) % 2)


def ones_total(odd, values):
    """The total of values that stand byte by byte behind a text, an odd one if odd is 1."""
    total = 0
    # Behind an odd text the first byte is the lower one of a number begun there.
    for value in values:
        if odd == 1:
            total = total + value
        else:
            total = total + 256 * value
        odd = 1 - odd
    return total


def ones_number(total):
    # A total of 0 alone gives 0: every other multiple of the modulus gives 65535.
    if total == 0:
        return 0
    return (total - 1) % ONES_MODULUS + 1


def ones_of_both(a, b, n):
    weight = 1
    # Behind an odd text all bytes of b's text change from higher to lower ones and back.
    if a // HALF == 1:
        weight = 256
    return ones_number(a % HALF + weight * (b % HALF)) + HALF * ((a // HALF + n) % 2)


def ones_changed(s, n, old, new):
    odd = s // HALF
    more = [now - was for was, now in zip(old, new)]
    total = s % HALF + ones_total((odd + n + len(old)) % 2, more)
    # Unlike ones_number: without the text none can tell a total of 0 from other multiples, so 65535 stands for all.
    return (total - 1) % ONES_MODULUS + 1 + HALF * odd


def adler_behind(s, text):
    a = s % HALF
    b = s // HALF
    for c in text:
        a = (a + c) % ADLER_MODULUS
        b = (b + a) % ADLER_MODULUS
    return HALF * b + a


def adler_of_both(a, b, n):
    # The 1 that b's text began with is taken off: 65520 is one less than the modulus.
    ahead = a % HALF + ADLER_MODULUS - 1
    lower = (ahead + b % HALF) % ADLER_MODULUS
    upper = (a // HALF + b // HALF + n * ahead) % ADLER_MODULUS
    return HALF * upper + lower


def adler_zeros_behind(s, n):
    a = s % HALF
    b = (s // HALF + n * a) % ADLER_MODULUS
    return HALF * b + a


def adler_changed(s, n, old, new):
    a = s % HALF
    b = s // HALF
    # A byte is in every value that a had from that byte on.
    times = n + len(old)
    for was, now in zip(old, new):
        a = a + now - was
        b = b + times * (now - was)
        times = times - 1
    return HALF * (b % ADLER_MODULUS) + a % ADLER_MODULUS
