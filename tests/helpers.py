"""What the tests of several calls need; nothing here asks the package."""

GREATEST_NUMBER = 4294967295
GREATEST_RULE = {1: 3, 2: 15, 3: 255, 4: 65535}

# Rules by which a tower's flag stays as it is, or always changes.
STAY = {1: [2], 2: [10, 12], 3: [170, 204, 240], 4: [43690, 52428, 61680, 65280]}
TURN = {1: [1], 2: [5, 3], 3: [85, 51, 15], 4: [21845, 13107, 3855, 255]}


class GuardedList(list):
    """A list that fails as soon as something would change it."""

    def forbidden(self, *args, **kwargs):
        raise AssertionError("the list that was handed in is being changed")

    __setitem__ = __delitem__ = __iadd__ = __imul__ = forbidden
    append = clear = extend = insert = pop = remove = reverse = sort = forbidden


def after_acting_alone(j, s, t):
    """The state behind an act of tower j alone, in lists of flags."""
    flags = [s // 2 ** k % 2 == 1 for k in range(len(t))]
    ups = [state for state in range(2 ** len(t)) if t[j] // 2 ** state % 2 == 1]
    flags[j] = s in ups
    return sum(2 ** k for k, up in enumerate(flags) if up)


def who_comes_where(n, t):
    """A table of all states: whether the second is come to from the first.

    Ways are joined at a state between them, for every such state in turn; no
    way is followed change by change.
    """
    states = range(2 ** n)
    table = [[a == b or b in [after_acting_alone(j, a, t) for j in range(n)] for b in states] for a in states]
    for between in states:
        for a in states:
            if table[a][between]:
                table[a] = [one or two for one, two in zip(table[a], table[between])]
    return table


def rules_for(n, changing):
    """Rules by which in each state just those towers change that `changing`
    gives for it, and none where it gives nothing."""
    rules = []
    for j in range(n):
        ups = [s for s in range(2 ** n) if (s // 2 ** j % 2 == 1) != (j in changing.get(s, []))]
        rules.append(sum(2 ** s for s in ups))
    return rules


def changes_along(states):
    """Of each state of the list but the last the tower whose change leads to
    the state behind it, alone in a list."""
    changing = {}
    for s, behind in zip(states, states[1:]):
        j = (s ^ behind).bit_length() - 1
        assert s ^ behind == 2 ** j, (s, behind)
        changing[s] = [j]
    return changing


def rules_along(n, states):
    """Rules by which each state of the list changes to the one behind it alone,
    and every other state is at rest."""
    return rules_for(n, changes_along(states))


def all_states_in_a_row(n):
    """All states, from 0 on, each one flag away from the one ahead of it."""
    row = [0]
    for j in range(n):
        row = row + [s + 2 ** j for s in reversed(row)]
    return row


def renumbered_state(s, names):
    """State s where tower j is called names[j]."""
    return sum(2 ** names[j] for j in range(len(names)) if s // 2 ** j % 2 == 1)


def renumbered_rules(t, names):
    rules = [0] * len(t)
    for j, rule in enumerate(t):
        ups = [s for s in range(2 ** len(t)) if rule // 2 ** s % 2 == 1]
        rules[names[j]] = sum(2 ** renumbered_state(s, names) for s in ups)
    return rules


def rules_with_few_changes(n):
    """Lists of rules by which in most states only few flags would change."""
    last = 2 ** 2 ** n
    number = 1
    lists = []
    for step in range(200):
        rules = []
        for j in range(n):
            changing = last - 1
            # Each further number takes about half of the changes away.
            for thinning in range(1 + step % 3):
                number = (number * 1103515245 + 12345) % 2 ** 31
                changing = changing & number // 2 ** 8
            rules.append(STAY[n][j] ^ changing)
        lists.append(rules)
    return lists


def many_rules(n):
    """All lists of rules of one or two towers, many of three or four."""
    if n == 1:
        return [[rule] for rule in range(4)]
    if n == 2:
        return [[first, second] for first in range(16) for second in range(16)]
    if n == 3:
        lists = [[k, k * 37 % 256, k * 101 % 256] for k in range(256)]
    else:
        lists = [[k, k * 7919 % 65536, k * 31337 % 65536, k * 54321 % 65536] for k in range(0, 65536, 251)]
    return lists + rules_with_few_changes(n)
