"""What towers do that act alone, one at a time.

A state is a number whose bit j is tower j's flag; a rule is a number whose
bit s is the flag that the rule puts in state s.
"""

REFUSED = -22
NOT_COME_TO = -33
MOST_TOWERS = 4


def power_of_two(exponent):
    power = 1
    for step in range(exponent):
        power = power * 2
    return power


def bit(number, place):
    return (number >> place) & 1


def is_state(n, s):
    return s < power_of_two(n)


def rules_fit(n, t):
    """Whether n towers may be and t has just one right rule for each."""
    # n is looked at first: the powers below must not be reckoned for a vast n.
    if n < 1 or n > MOST_TOWERS or len(t) != n:
        return False
    states = power_of_two(n)
    too_great = power_of_two(states)
    return all([rule < too_great for rule in t])


def would_change(s, t, j):
    return bit(t[j], s) != bit(s, j)


def moves(n, s, t):
    """How many flags would change in state s, then these towers, rising."""
    if not rules_fit(n, t) or not is_state(n, s):
        return [REFUSED]
    towers = [j for j in range(n) if would_change(s, t, j)]
    return [len(towers)] + towers


def behind_one_change(n, s, t):
    """The states to which one change leads from s."""
    return [s ^ power_of_two(j) for j in range(n) if would_change(s, t, j)]


def fewest_changes(n, s, t):
    """Of each state that is come to from s: how few changes lead there."""
    fewest = {s: 0}
    latest = [s]
    # Round by round, so that a state is first met by the fewest changes.
    while len(latest) > 0:
        further = []
        for state in latest:
            for other in behind_one_change(n, state, t):
                if other not in fewest:
                    fewest[other] = fewest[state] + 1
                    further.append(other)
        latest = further
    return fewest


def come_to(n, s, t):
    """The states that are come to from s, rising."""
    return sorted(fewest_changes(n, s, t).keys())


def reach(n, s, t):
    """How many states are come to from s, then these, rising."""
    if not rules_fit(n, t) or not is_state(n, s):
        return [REFUSED]
    states = come_to(n, s, t)
    return [len(states)] + states


def far(n, s, x, t):
    """By how few changes one comes from s to x."""
    if not rules_fit(n, t) or not is_state(n, s) or not is_state(n, x):
        return [REFUSED]
    fewest = fewest_changes(n, s, t)
    if x not in fewest:
        return [NOT_COME_TO]
    return [fewest[x]]


def traps(n, t):
    """How many traps there are, then of each its least state and how many it has."""
    if not rules_fit(n, t):
        return [REFUSED]
    reached = [come_to(n, s, t) for s in range(power_of_two(n))]
    found = []
    for s, states in enumerate(reached):
        # If all that is come to leads back it's a trap; its least state alone
        # stands for it, so that it's counted once.
        if s == states[0] and all([s in reached[x] for x in states]):
            found = found + [s, len(states)]
    return [len(found) // 2] + found


def at_rest(n, s, t):
    return len(behind_one_change(n, s, t)) == 0


def rest_is_come_to(n, s, t):
    return any([at_rest(n, x, t) for x in come_to(n, s, t)])


def may(n, s, t):
    """2 if rest is come to from each state that is come to from s, 1 if from s, else 0."""
    if not rules_fit(n, t) or not is_state(n, s):
        return [REFUSED]
    if all([rest_is_come_to(n, x, t) for x in come_to(n, s, t)]):
        return [2]
    if rest_is_come_to(n, s, t):
        return [1]
    return [0]
