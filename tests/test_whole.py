"""Tests of what holds over the whole program: its five calls together."""

import importlib.util
import itertools
import math
import unittest

from towerchanges import alone
from towerchanges.alone import far, may, moves, reach, traps
from tests.helpers import STAY, TURN, GuardedList, after_acting_alone, many_rules, rules_for


def trap_states(n, t):
    """The traps as lists of states: all that is come to from their least ones."""
    answer = traps(n, t)
    return [reach(n, least, t)[1:] for least in answer[1::2]]


class WhatHolds(unittest.TestCase):
    def test_from_each_state_some_trap_is_come_to(self):
        for n in range(1, 5):
            for t in many_rules(n):
                leasts = traps(n, t)[1::2]
                for s in range(2 ** n):
                    states = reach(n, s, t)[1:]
                    self.assertTrue([least for least in leasts if least in states], (n, s, t))

    def test_a_trap_is_states_each_come_to_from_each_other_and_no_change_leads_out(self):
        for n in range(1, 5):
            for t in many_rules(n):
                answer = traps(n, t)
                found = trap_states(n, t)
                self.assertEqual([len(states) for states in found], answer[2::2], (n, t))
                for states in found:
                    for s in states:
                        self.assertEqual(reach(n, s, t)[1:], states, (n, s, t))
                        for j in moves(n, s, t)[1:]:
                            self.assertIn(after_acting_alone(j, s, t), states, (n, s, t))

    def test_a_state_in_no_trap_does_not_come_back_from_some_state(self):
        for n in range(1, 5):
            for t in many_rules(n):
                inside = [s for states in trap_states(n, t) for s in states]
                for s in range(2 ** n):
                    back = [s in reach(n, x, t)[1:] for x in reach(n, s, t)[1:]]
                    self.assertEqual(all(back), s in inside, (n, s, t))

    def test_whatever_a_pass_in_some_order_brings_is_come_to(self):
        # By one change of each tower at most.
        for n in range(1, 5):
            for t in many_rules(n)[::3]:
                for s in range(2 ** n):
                    states = reach(n, s, t)[1:]
                    brought = set()
                    for order in itertools.permutations(range(n)):
                        state = s
                        for j in order:
                            state = after_acting_alone(j, state, t)
                        brought.add(state)
                    for x in brought:
                        self.assertIn(x, states, (n, s, t))
                        self.assertIn(far(n, s, x, t)[0], range(n + 1), (n, s, x, t))

    def test_far_answers_a_number_just_where_reach_has_the_state(self):
        for n in range(1, 5):
            for t in many_rules(n)[1::3]:
                for s in range(2 ** n):
                    states = reach(n, s, t)[1:]
                    for x in range(2 ** n):
                        answer = far(n, s, x, t)
                        self.assertEqual(answer[0] >= 0, x in states, (n, s, x, t))
                        self.assertTrue(answer[0] >= 0 or answer == [-33], (n, s, x, t))

    def test_far_is_one_where_moves_has_the_tower(self):
        for n in range(1, 5):
            for t in many_rules(n)[2::3]:
                for s in range(2 ** n):
                    near = sorted(s ^ 2 ** j for j in moves(n, s, t)[1:])
                    self.assertEqual([x for x in range(2 ** n) if far(n, s, x, t) == [1]], near, (n, s, t))

    def test_may_is_as_reach_and_the_traps_of_one_state_say(self):
        for n in range(1, 5):
            for t in many_rules(n):
                answer = traps(n, t)
                counts = dict(zip(answer[1::2], answer[2::2]))
                for s in range(2 ** n):
                    come = [counts[x] == 1 for x in reach(n, s, t)[1:] if x in counts]
                    self.assertTrue(come, (n, s, t))
                    expected = [2] if all(come) else [1] if any(come) else [0]
                    self.assertEqual(may(n, s, t), expected, (n, s, t))

    def test_changes_lead_from_2_to_2_alone_and_from_0_to_0_alone(self):
        for n in range(1, 5):
            for t in many_rules(n)[::3]:
                answers = [may(n, s, t)[0] for s in range(2 ** n)]
                for s in range(2 ** n):
                    for j in moves(n, s, t)[1:]:
                        if answers[s] != 1:
                            self.assertEqual(answers[s ^ 2 ** j], answers[s], (n, s, t))


def watched_signs(n, rule):
    """How the tower of that rule watches each tower: 1 among the signs if its
    flag may go up as that one's does, -1 if it may go down."""
    signs = [set() for k in range(n)]
    for s in range(2 ** n):
        for k in range(n):
            if not s & 2 ** k:
                step = (rule >> (s | 2 ** k) & 1) - (rule >> s & 1)
                signs[k] |= {step} - {0}
    return signs


def rings_of_watching(n):
    """Every ring of towers, each but once in it, each watching the one behind it."""
    return [ring for count in range(1, n + 1) for ring in itertools.permutations(range(n), count)
            if ring[0] == min(ring)]


def signs_of_rings(n, t):
    """-1 among them if some ring can be odd, 1 if some ring can be even."""
    watched = [watched_signs(n, rule) for rule in t]
    met = set()
    for ring in rings_of_watching(n):
        links = [watched[j][k] for j, k in zip(ring, ring[1:] + ring[:1])]
        for signs in itertools.product(*links):
            sign = 1
            for each in signs:
                sign = sign * each
            met.add(sign)
    return met


def plain_rules(n):
    """Rules that look at no tower, at one or at two."""
    last = 2 ** 2 ** n - 1
    looks = STAY[n] + [last - rule for rule in STAY[n]]
    both = [one & other for one, other in itertools.combinations(looks, 2)]
    either = [one | other for one, other in itertools.combinations(looks, 2)]
    return sorted(set([0, last] + looks + both + either))


def plain_lists(n):
    """Lists of plain rules: all for one or two towers, many for three or four."""
    rules = plain_rules(n)
    if n < 3:
        return [list(t) for t in itertools.product(rules, repeat=n)]
    number = 1
    lists = []
    for step in range(6000):
        t = []
        for j in range(n):
            number = (number * 1103515245 + 12345) % 2 ** 31
            t.append(rules[number // 2 ** 12 % len(rules)])
        lists.append(t)
    return lists


class RingsOfWatching(unittest.TestCase):
    """Point 2 of the document, where watching is: the rule hangs on that flag."""

    def test_the_signs_of_some_rings(self):
        self.assertEqual(signs_of_rings(1, [0]), set())
        self.assertEqual(signs_of_rings(1, [2]), {1})
        self.assertEqual(signs_of_rings(1, [1]), {-1})
        self.assertEqual(signs_of_rings(2, [12, 10]), {1})
        self.assertEqual(signs_of_rings(2, [3, 5]), {1})
        self.assertEqual(signs_of_rings(2, [12, 5]), {-1})
        self.assertEqual(signs_of_rings(2, [6, 10]), {1, -1})
        self.assertEqual(signs_of_rings(3, [240, 170, 204]), {1})
        self.assertEqual(signs_of_rings(3, [15, 85, 51]), {-1})
        self.assertEqual(signs_of_rings(3, [255, 170, 204]), set())

    def test_if_no_ring_can_be_odd_each_trap_is_one_state_at_rest(self):
        for n in range(1, 5):
            met = 0
            for t in plain_lists(n):
                if -1 not in signs_of_rings(n, t):
                    met += 1
                    answer = traps(n, t)
                    self.assertEqual(answer[2::2], [1] * answer[0], (n, t))
                    for s in answer[1::2]:
                        self.assertEqual(moves(n, s, t), [0], (n, t))
                    self.assertEqual([may(n, s, t) for s in range(2 ** n)], [[2]] * 2 ** n, (n, t))
            self.assertGreaterEqual(met, 3, n)

    def test_if_no_ring_can_be_even_there_is_just_one_trap(self):
        for n in range(1, 5):
            met = 0
            for t in plain_lists(n):
                if 1 not in signs_of_rings(n, t):
                    met += 1
                    self.assertEqual(traps(n, t)[0], 1, (n, t))
            self.assertGreaterEqual(met, 3, n)


def by_itself(call, args):
    """The answer of a call of a program that is read anew for it alone."""
    spec = importlib.util.spec_from_file_location("alone_anew", alone.__file__)
    module = importlib.util.module_from_spec(spec)
    spec.loader.exec_module(module)
    return getattr(module, call)(*args)


def five_calls(n, s, x, t):
    return [
        ("moves", (n, s, t)), ("reach", (n, s, t)), ("far", (n, s, x, t)), ("traps", (n, t)), ("may", (n, s, t)),
    ]


# n, s, x and t, right or not.
INPUTS = [
    (1, 0, 1, [1]),
    (1, 1, 0, [3]),
    (2, 2, 1, [15, 0]),
    (2, 1, 2, [12, 10]),
    (2, 0, 3, [12, 5]),
    (2, 0, 3, rules_for(2, {0: [0, 1], 2: [0], 3: [0]})),
    (3, 1, 5, [240, 170, 204]),
    (3, 0, 6, [170, 51, 240]),
    (4, 0, 15, TURN[4]),
    (4, 15, 15, STAY[4]),
    (4, 3, 12, [25391, 3061, 44967, 51204]),
    (0, 0, 0, []),
    (2, 4, 0, [15, 0]),
    (2, 0, 4, [15, 0]),
    (2, 0, 0, [0, 16]),
    (3, 1, 5, [240, 170]),
    (5, 0, 0, [0] * 10),
]


class OneBehindAnother(unittest.TestCase):
    def test_answers_written_out_by_hand(self):
        calls = five_calls(2, 0, 3, rules_for(2, {0: [0, 1], 2: [0], 3: [0]}))
        answers = {"moves": [2, 0, 1], "reach": [4, 0, 1, 2, 3], "far": [2], "traps": [2, 1, 1, 2, 2], "may": [1]}
        for order in itertools.permutations(calls):
            for name, args in order:
                self.assertEqual(getattr(alone, name)(*args), answers[name], (order, name))

    def test_in_any_order_of_the_five_with_the_same_list(self):
        for n, s, x, t in INPUTS:
            calls = five_calls(n, s, x, t)
            answers = {name: by_itself(name, (args[:-1] + (list(t),))) for name, args in calls}
            before = list(t)
            for order in itertools.permutations(calls):
                for name, args in order:
                    self.assertEqual(getattr(alone, name)(*args), answers[name], (name, args))
            self.assertEqual(t, before)

    def test_among_calls_with_other_inputs(self):
        calls = [call for given in INPUTS for call in five_calls(*given)]
        answers = [by_itself(name, args) for name, args in calls]
        # With no divisor in common the step brings each call once.
        for step in [step for step in range(1, len(calls)) if math.gcd(step, len(calls)) == 1][::8]:
            for k in range(len(calls)):
                place = k * step % len(calls)
                name, args = calls[place]
                self.assertEqual(getattr(alone, name)(*args), answers[place], (step, name, args))

    def test_a_changed_answer_of_one_call_comes_up_in_no_other(self):
        calls = [call for given in INPUTS for call in five_calls(*given)]
        answers = [by_itself(name, args) for name, args in calls]
        for changed in ("moves", "reach", "far", "traps", "may"):
            for name, args in calls:
                if name == changed:
                    answer = getattr(alone, name)(*args)
                    answer[0] = 77
                    answer.append(77)
            for (name, args), answer in zip(calls, answers):
                self.assertEqual(getattr(alone, name)(*args), answer, (changed, name, args))

    def test_with_a_list_that_fails_as_soon_as_it_would_be_changed(self):
        for n, s, x, t in INPUTS:
            for name, args in five_calls(n, s, x, GuardedList(t)):
                self.assertEqual(getattr(alone, name)(*args), by_itself(name, args[:-1] + (t,)), (name, args))


class Refusals(unittest.TestCase):
    """What is refused by one call is refused by each that is handed it."""

    def refused(self, calls):
        for name, args in calls:
            with self.subTest(name=name, args=args):
                self.assertEqual(getattr(alone, name)(*args), [-22])

    def test_of_towers_and_rules(self):
        for n, t in ((0, []), (0, [0]), (5, [0] * 5), (5, [0] * 10), (4294967295, [0] * 10), (1, [4]), (2, [16, 0]),
                     (2, [0, 16]), (3, [0, 256, 0]), (4, [0] * 3), (4, [0] * 5), (3, []), (1, [0] * 10)):
            self.refused(five_calls(n, 0, 0, t))

    def test_of_states(self):
        for n in range(1, 5):
            for state in (2 ** n, 4294967295):
                asked = [call for call in five_calls(n, state, 0, STAY[n]) if call[0] != "traps"]
                self.assertEqual(len(asked), 4)
                self.refused(asked)
                self.refused([("far", (n, 0, state, STAY[n])), ("far", (n, state, state, STAY[n]))])

    def test_nothing_else_that_is_answered_is_below_nought(self):
        for n in range(1, 5):
            for t in many_rules(n)[::7]:
                for s in range(2 ** n):
                    for name, args in five_calls(n, s, 2 ** n - 1 - s, t):
                        answer = getattr(alone, name)(*args)
                        if answer != [-33] or name != "far":
                            self.assertGreaterEqual(min(answer), 0, (name, args))


if __name__ == "__main__":
    unittest.main()
