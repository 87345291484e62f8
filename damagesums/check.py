"""The calls: each answers a list of whole numbers, [-1] where it refuses; found alone may answer [-2], too."""

from damagesums.states import (
    can_have_length, empty_state, filling_bytes, is_by_bits, is_kind, is_state, state_behind, state_changed,
    state_of_all, state_of_both, state_of_text, sum_bytes, sum_length, sum_of_state, table_number, turned_bit,
    zeros_behind,
)

LONGEST_TEXT = 65536
MOST_PIECES = 64
HIGHEST_BYTE = 255
HIGHEST_N = 1099511627776


def begin(k):
    """0, then the state of the text of no bytes."""
    if not is_kind(k):
        return [-1]
    return [0, empty_state(k)]


def add(k, s, text):
    """0, then the state of s's text with this text behind it."""
    if not is_kind(k) or not is_state(k, s) or len(text) > LONGEST_TEXT:
        return [-1]
    return [0, state_behind(k, s, text)]


def sum_of(k, s):
    """0, then the sum of a text with the state s."""
    if not is_kind(k) or not is_state(k, s):
        return [-1]
    return [0, sum_of_state(k, s)]


def of(k, text):
    """0, then the sum of the text."""
    if not is_kind(k) or len(text) > LONGEST_TEXT:
        return [-1]
    return [0, sum_of_state(k, state_of_text(k, text))]


def joined(k, a, b, n):
    """0, then the state of a's text with b's text, of n bytes, behind it."""
    if not is_kind(k) or not is_state(k, a) or not is_state(k, b) or n > HIGHEST_N:
        return [-1]
    if not can_have_length(k, b, n):
        return [-1]
    return [0, state_of_both(k, a, b, n)]


def zeros(k, s, n):
    """0, then the state of s's text with n bytes of 0 behind it."""
    if not is_kind(k) or not is_state(k, s) or n > HIGHEST_N:
        return [-1]
    return [0, zeros_behind(k, s, n)]


def changed(k, s, n, old, new):
    """0, then the state of s's text with new in the place of old, which has n bytes behind it."""
    if not is_kind(k) or not is_state(k, s) or n > HIGHEST_N:
        return [-1]
    if len(old) > LONGEST_TEXT or len(new) != len(old):
        return [-1]
    return [0, state_changed(k, s, n, old, new)]


def put(k, at, text):
    """How many bytes, then the text with its sum's bytes at place at."""
    if not has_room(k, at, text):
        return [-1]
    return [len(text)] + text[:at] + sum_bytes(k, at, text) + text[at + sum_length(k):]


def right(k, at, text):
    """1 if the text is as put would make it, else 0."""
    if not has_room(k, at, text):
        return [-1]
    if text[at:at + sum_length(k)] == sum_bytes(k, at, text):
        return [1]
    return [0]


def filled(k, s, want):
    """4 or 8, then so many bytes which make the state want behind s's text."""
    if not is_by_bits(k) or not is_state(k, s) or not is_state(k, want):
        return [-1]
    return [sum_length(k)] + filling_bytes(k, s, want)


def pieces(k, texts):
    """How many texts, then the state of each, then that of all of them, one behind the other."""
    if not is_kind(k) or len(texts) > MOST_PIECES:
        return [-1]
    if sum([len(text) for text in texts]) > LONGEST_TEXT:
        return [-1]
    each = [state_of_text(k, text) for text in texts]
    return [len(texts)] + each + [state_of_all(k, each, texts)]


def copied(k, s, start, n, text):
    """n, then the state of s's text with the text's n bytes from place start on behind it, then these bytes."""
    if not is_kind(k) or not is_state(k, s) or len(text) > LONGEST_TEXT:
        return [-1]
    if start < 0 or n < 0 or start + n > len(text):
        return [-1]
    part = text[start:start + n]
    return [n, state_behind(k, s, part)] + part


def found(k, given, should, n):
    """0, then the place of the bit of n bytes that must turn so that the sum given is the sum should."""
    if not is_by_bits(k) or not is_state(k, given) or not is_state(k, should) or n > LONGEST_TEXT:
        return [-1]
    place = turned_bit(k, given ^ should, n)
    if place is None:
        return [-2]
    return [0, place]


def table(k, i):
    """0, then what eight bits on make of i."""
    if not is_by_bits(k) or i < 0 or i > HIGHEST_BYTE:
        return [-1]
    return [0, table_number(k, i)]


def has_room(k, at, text):
    """Whether k is a kind and the text, not too long, has its sum's bytes at place at."""
    if not is_kind(k) or len(text) > LONGEST_TEXT:
        return False
    return 0 <= at and at + sum_length(k) <= len(text)
