"""The calls: each answers a list of whole numbers, [-1] where it refuses."""

from damagesums.states import empty_state, is_kind, is_state, state_behind, sum_of_state

LONGEST_TEXT = 65536


def begin(k):
    """0, then the state of the text of no bytes."""
    if not is_kind(k):
        return [-1]
    return [0, empty_state(k)]


def add(k, s, text):
    """0, then the state of s's text with this text behind it."""
    if not is_kind(k) or not is_state(k, s) or len(text) > LONGEST_TEXT:
        return [-1]
    return [0, state_behind(k, s, text)]


def sum_of(k, s):
    """0, then the sum of a text with the state s."""
    if not is_kind(k) or not is_state(k, s):
        return [-1]
    return [0, sum_of_state(k, s)]
