"""What towers do that act alone, one at a time.

A state is a number whose bit j is tower j's flag; a rule is a number whose
bit s is the flag that the rule puts in state s.
"""

REFUSED = -22
MOST_TOWERS = 4


def power_of_two(exponent):
    power = 1
    for step in range(exponent):
        power = power * 2
    return power


def bit(number, place):
    return (number >> place) & 1


def is_state(n, s):
    return s < power_of_two(n)


def rules_fit(n, t):
    """Whether n towers may be and t has just one right rule for each."""
    # n is looked at first: the powers below must not be reckoned for a vast n.
    if n < 1 or n > MOST_TOWERS or len(t) != n:
        return False
    states = power_of_two(n)
    too_great = power_of_two(states)
    return all([rule < too_great for rule in t])


def would_change(s, t, j):
    return bit(t[j], s) != bit(s, j)


def moves(n, s, t):
    """How many flags would change in state s, then these towers, rising."""
    if not rules_fit(n, t) or not is_state(n, s):
        return [REFUSED]
    towers = [j for j in range(n) if would_change(s, t, j)]
    return [len(towers)] + towers


def behind_one_change(n, s, t):
    """The states to which one change leads from s."""
    return [s ^ power_of_two(j) for j in range(n) if would_change(s, t, j)]


def come_to(n, s, t):
    """The states that are come to from s, rising."""
    found = {s: True}
    waiting = [s]
    while len(waiting) > 0:
        state = waiting.pop()
        for other in behind_one_change(n, state, t):
            if other not in found:
                found[other] = True
                waiting.append(other)
    return sorted(found.keys())


def reach(n, s, t):
    """How many states are come to from s, then these, rising."""
    if not rules_fit(n, t) or not is_state(n, s):
        return [REFUSED]
    states = come_to(n, s, t)
    return [len(states)] + states
