"""Tests of towerchanges.alone.reach."""

import inspect
import itertools
import unittest

from towerchanges.alone import reach
from tests.helpers import (
    GREATEST_NUMBER, GREATEST_RULE, STAY, TURN, GuardedList, after_acting_alone,
    all_states_in_a_row, many_rules, renumbered_rules, renumbered_state, rules_along, rules_for,
    who_comes_where,
)


def expected_reach(table, s):
    states = [x for x, come in enumerate(table[s]) if come]
    return [len(states)] + states


def gone_through(n, s, t, towers, place):
    """The states come to from s, the towers asked in the order given, and the
    state to go on from taken from that place of those that wait."""
    found = [s]
    waiting = [s]
    while waiting:
        state = waiting.pop(place)
        for j in towers:
            other = after_acting_alone(j, state, t)
            if other not in found:
                found.append(other)
                waiting.append(other)
    return [len(found)] + sorted(found)


class Ordinary(unittest.TestCase):
    def test_one_tower(self):
        self.assertEqual(reach(1, 0, [0]), [1, 0])
        self.assertEqual(reach(1, 1, [0]), [2, 0, 1])
        self.assertEqual(reach(1, 0, [1]), [2, 0, 1])
        self.assertEqual(reach(1, 1, [1]), [2, 0, 1])
        self.assertEqual(reach(1, 0, [2]), [1, 0])
        self.assertEqual(reach(1, 1, [2]), [1, 1])
        self.assertEqual(reach(1, 0, [3]), [2, 0, 1])
        self.assertEqual(reach(1, 1, [3]), [1, 1])

    def test_two_towers_one_always_up_one_always_down(self):
        t = [15, 0]
        self.assertEqual(reach(2, 0, t), [2, 0, 1])
        self.assertEqual(reach(2, 1, t), [1, 1])
        self.assertEqual(reach(2, 2, t), [4, 0, 1, 2, 3])
        self.assertEqual(reach(2, 3, t), [2, 1, 3])

    def test_two_towers_one_copies_one_turns_the_other(self):
        # Tower 0 does as tower 1 does, tower 1 the other of tower 0: round and round.
        for s in range(4):
            self.assertEqual(reach(2, s, [12, 5]), [4, 0, 1, 2, 3])

    def test_three_towers_that_copy_in_a_ring(self):
        t = [240, 170, 204]
        self.assertEqual(reach(3, 0, t), [1, 0])
        self.assertEqual(reach(3, 7, t), [1, 7])
        # 1, 3, 2, 6, 4, 5 lead round to 1, and out of these to 0 and 7.
        for s in range(1, 7):
            self.assertEqual(reach(3, s, t), [8, 0, 1, 2, 3, 4, 5, 6, 7])

    def test_three_towers_of_which_two_stay(self):
        t = [170, 51, 240]
        for low in (0, 1, 4, 5):
            self.assertEqual(reach(3, low, t), [2, low, low + 2])
            self.assertEqual(reach(3, low + 2, t), [2, low, low + 2])

    def test_four_towers_whose_flags_only_go_up(self):
        t = [65535] * 4
        self.assertEqual(reach(4, 15, t), [1, 15])
        self.assertEqual(reach(4, 11, t), [2, 11, 15])
        self.assertEqual(reach(4, 9, t), [4, 9, 11, 13, 15])
        self.assertEqual(reach(4, 2, t), [8, 2, 3, 6, 7, 10, 11, 14, 15])
        self.assertEqual(reach(4, 0, t), [16] + list(range(16)))

    def test_four_towers_along_one_way(self):
        t = rules_along(4, [5, 13, 12, 8, 10, 2])
        self.assertEqual(reach(4, 5, t), [6, 2, 5, 8, 10, 12, 13])
        self.assertEqual(reach(4, 12, t), [4, 2, 8, 10, 12])
        self.assertEqual(reach(4, 2, t), [1, 2])
        self.assertEqual(reach(4, 0, t), [1, 0])


class ReckonedInAnotherWay(unittest.TestCase):
    def test_many_rules_and_every_state(self):
        for n in range(1, 5):
            for t in many_rules(n):
                table = who_comes_where(n, t)
                for s in range(2 ** n):
                    self.assertEqual(reach(n, s, t), expected_reach(table, s), (n, s, t))

    def test_whatever_a_pass_in_some_order_brings_is_come_to(self):
        for n in range(1, 5):
            for t in many_rules(n)[::5]:
                for s in range(2 ** n):
                    states = reach(n, s, t)[1:]
                    for order in itertools.permutations(range(n)):
                        state = s
                        for j in order:
                            state = after_acting_alone(j, state, t)
                        self.assertIn(state, states, (n, s, t, order))


class Edges(unittest.TestCase):
    def test_only_s_itself_if_s_is_at_rest(self):
        for n in range(1, 5):
            for s in range(2 ** n):
                with self.subTest(n=n, s=s):
                    self.assertEqual(reach(n, s, STAY[n]), [1, s])

    def test_only_s_is_at_rest(self):
        for n in range(1, 5):
            towers = list(range(n))
            for s in range(2 ** n):
                t = rules_for(n, {x: towers for x in range(2 ** n) if x != s})
                with self.subTest(n=n, s=s):
                    self.assertEqual(reach(n, s, t), [1, s])

    def test_all_states_by_any_changes(self):
        for n in range(1, 5):
            for s in range(2 ** n):
                with self.subTest(n=n, s=s):
                    self.assertEqual(reach(n, s, TURN[n]), [2 ** n] + list(range(2 ** n)))

    def test_all_states_by_one_way_alone(self):
        for n in range(1, 5):
            row = all_states_in_a_row(n)
            t = rules_along(n, row)
            for k, s in enumerate(row):
                with self.subTest(n=n, s=s):
                    self.assertEqual(reach(n, s, t), [2 ** n - k] + sorted(row[k:]))

    def test_a_state_at_rest_that_is_never_come_to(self):
        # State 3 is at rest, and no change leads there.
        t = rules_for(2, {0: [0, 1], 1: [0], 2: [1]})
        for s in (0, 1, 2):
            self.assertEqual(reach(2, s, t), [3, 0, 1, 2])
        self.assertEqual(reach(2, 3, t), [1, 3])
        # States 0 and 4 are at rest; the others lead round to one another.
        t = rules_along(3, [1, 3, 2, 6, 7, 5, 1])
        for s in (1, 2, 3, 5, 6, 7):
            self.assertEqual(reach(3, s, t), [6, 1, 2, 3, 5, 6, 7])
        self.assertEqual(reach(3, 0, t), [1, 0])
        self.assertEqual(reach(3, 4, t), [1, 4])

    def test_two_that_would_change_at_once_and_together_come_back(self):
        # Each copies the other: all at once 1 and 2 lead to one another, alone
        # neither does.
        t = [12, 10]
        self.assertEqual(reach(2, 1, t), [3, 0, 1, 3])
        self.assertEqual(reach(2, 2, t), [3, 0, 2, 3])
        self.assertEqual(reach(2, 0, t), [1, 0])
        self.assertEqual(reach(2, 3, t), [1, 3])
        # Each turns from the other: all at once 0 and 3 lead to one another.
        t = [3, 5]
        self.assertEqual(reach(2, 0, t), [3, 0, 1, 2])
        self.assertEqual(reach(2, 3, t), [3, 1, 2, 3])
        self.assertEqual(reach(2, 1, t), [1, 1])
        self.assertEqual(reach(2, 2, t), [1, 2])

    def test_a_change_that_leads_away_does_not_lead_back(self):
        t = [15, 10]
        self.assertEqual(reach(2, 0, t), [3, 0, 1, 3])
        self.assertEqual(reach(2, 1, t), [2, 1, 3])
        self.assertEqual(reach(2, 2, t), [4, 0, 1, 2, 3])

    def test_the_states_rise_and_none_stands_twice(self):
        for n in range(1, 5):
            for t in many_rules(n):
                for s in range(2 ** n):
                    count, *states = reach(n, s, t)
                    self.assertEqual(count, len(states), (n, s, t))
                    for one, other in zip(states, states[1:]):
                        self.assertLess(one, other, (n, s, t))
                    self.assertIn(s, states, (n, s, t))

    def test_greatest_rules_and_rules_of_nought(self):
        for n in range(1, 5):
            last = 2 ** n - 1
            every = [2 ** n] + list(range(2 ** n))
            with self.subTest(n=n):
                self.assertEqual(reach(n, 0, [0] * n), [1, 0])
                self.assertEqual(reach(n, last, [0] * n), every)
                self.assertEqual(reach(n, 0, [GREATEST_RULE[n]] * n), every)
                self.assertEqual(reach(n, last, [GREATEST_RULE[n]] * n), [1, last])


class WhateverTheOrder(unittest.TestCase):
    def test_of_the_changes(self):
        for n in range(1, 5):
            rising = list(range(n))
            for t in many_rules(n)[::7]:
                for s in range(2 ** n):
                    answer = reach(n, s, t)
                    for towers in (rising, rising[::-1], rising[1:] + rising[:1]):
                        for place in (0, -1):
                            self.assertEqual(answer, gone_through(n, s, t, towers, place), (n, s, t))

    def test_of_the_towers(self):
        for n in range(1, 5):
            for t in many_rules(n)[::23]:
                for names in itertools.permutations(range(n)):
                    others = renumbered_rules(t, names)
                    for s in range(2 ** n):
                        states = [renumbered_state(x, names) for x in reach(n, s, t)[1:]]
                        answer = reach(n, renumbered_state(s, names), others)
                        self.assertEqual(answer, [len(states)] + sorted(states), (n, s, t, names))


class Refusals(unittest.TestCase):
    def refused(self, n, s, t):
        with self.subTest(n=n, s=s, t=t):
            self.assertEqual(reach(n, s, t), [-22])

    def test_no_right_number_of_towers(self):
        for n in (0, 5, 6, 10, 11, GREATEST_NUMBER):
            for length in range(11):
                self.refused(n, 0, [0] * length)
                self.refused(n, 1, [1] * length)

    def test_no_rules(self):
        for n in range(1, 5):
            self.refused(n, 0, [])

    def test_one_rule_too_few_or_too_many(self):
        for n in range(1, 5):
            self.refused(n, 0, STAY[n][:-1])
            self.refused(n, 0, STAY[n] + [0])
            self.refused(n, 2 ** n - 1, STAY[n] + [GREATEST_RULE[n]])

    def test_any_other_number_of_rules(self):
        for n in range(1, 5):
            for length in range(11):
                if length != n:
                    self.refused(n, 0, [0] * length)
                    self.refused(n, 2 ** n - 1, [GREATEST_RULE[n]] * length)

    def test_a_rule_not_below_the_bound(self):
        for n in range(1, 4):
            for rule in (GREATEST_RULE[n] + 1, GREATEST_RULE[n] + 2, 65535):
                for j in range(n):
                    t = list(STAY[n])
                    t[j] = rule
                    self.refused(n, 0, t)
                    self.refused(n, 2 ** n - 1, t)

    def test_no_state(self):
        for n in range(1, 5):
            for s in (2 ** n, 2 ** n + 1, 2 ** (n + 1), GREATEST_NUMBER):
                self.refused(n, s, [0] * n)
                self.refused(n, s, STAY[n])
                self.refused(n, s, TURN[n])

    def test_several_faults_are_one_refusal(self):
        self.refused(0, 0, [0] * 10)
        self.refused(0, GREATEST_NUMBER, [65535] * 10)
        self.refused(5, 32, [65535] * 5)
        self.refused(GREATEST_NUMBER, GREATEST_NUMBER, [])
        self.refused(GREATEST_NUMBER, GREATEST_NUMBER, [65535] * 10)
        self.refused(1, 2, [4])
        self.refused(2, 4, [16])
        self.refused(2, 4, [10, 16])
        self.refused(3, 8, [256] * 4)
        self.refused(4, 16, [65535] * 3)
        self.refused(4, GREATEST_NUMBER, [65535] * 5)


CALLS = [
    (1, 0, [1]),
    (2, 2, [15, 0]),
    (2, 1, [12, 10]),
    (3, 4, [240, 170, 204]),
    (4, 0, [21845, 13107, 3855, 255]),
    (4, 15, [43690, 52428, 61680, 65280]),
    (0, 0, []),
    (2, 0, [0, 16]),
    (3, 8, [1, 2, 3]),
    (4, 0, [9, 8, 7, 6, 5, 4, 3, 2, 1, 0]),
]


class EachCallByItself(unittest.TestCase):
    def test_arguments_are_after_the_call_as_before(self):
        for n, s, t in CALLS:
            arguments = [n, s, list(t)]
            reach(n, s, t)
            self.assertEqual([n, s, t], arguments)

    def test_rules_are_not_changed_for_a_while_either(self):
        for n, s, t in CALLS:
            self.assertEqual(reach(n, s, GuardedList(t)), reach(n, s, t))

    def test_same_arguments_same_answer(self):
        for n, s, t in CALLS:
            self.assertEqual(reach(n, s, t), reach(n, s, t))
        first = [reach(n, s, t) for n, s, t in CALLS]
        second = [reach(n, s, t) for n, s, t in reversed(CALLS)]
        self.assertEqual(first, second[::-1])

    def test_an_answer_that_was_changed_does_not_come_back(self):
        for n, s, t in CALLS:
            answer = reach(n, s, t)
            kept = list(answer)
            answer.append(77)
            self.assertEqual(reach(n, s, t), kept)

    def test_rules_changed_by_the_caller_are_read_anew(self):
        t = [15, 0]
        self.assertEqual(reach(2, 0, t), [2, 0, 1])
        t[1] = 15
        self.assertEqual(reach(2, 0, t), [4, 0, 1, 2, 3])


class Interface(unittest.TestCase):
    def test_arguments(self):
        self.assertEqual(list(inspect.signature(reach).parameters), ["n", "s", "t"])
        self.assertEqual(reach(n=2, s=3, t=[15, 0]), [2, 1, 3])

    def test_the_answer_is_a_list_of_whole_numbers(self):
        for n, s, t in CALLS:
            answer = reach(n, s, t)
            self.assertIs(type(answer), list)
            for number in answer:
                self.assertIs(type(number), int)


if __name__ == "__main__":
    unittest.main()
