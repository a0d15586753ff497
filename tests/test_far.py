"""Tests of towerchanges.alone.far."""

import inspect
import itertools
import unittest

from towerchanges.alone import far, reach
from tests.helpers import (
    GREATEST_NUMBER, GREATEST_RULE, STAY, TURN, GuardedList, after_acting_alone,
    all_states_in_a_row, changes_along, many_rules, renumbered_rules, renumbered_state, rules_along,
    rules_for,
)

NO_WAY = 1000


def fewest_between_all(n, t):
    """A table of all states: the fewest changes from the first to the second.

    Ways are joined at a state between them, for every such state in turn; no
    way is followed change by change.
    """
    states = range(2 ** n)
    table = [[NO_WAY] * 2 ** n for a in states]
    for a in states:
        for j in range(n):
            table[a][after_acting_alone(j, a, t)] = 1
        table[a][a] = 0
    for between in states:
        for a in states:
            ahead = table[a][between]
            if ahead < NO_WAY:
                table[a] = [min(one, ahead + two) for one, two in zip(table[a], table[between])]
    return table


def expected_far(table, s, x):
    return [-33] if table[s][x] >= NO_WAY else [table[s][x]]


def flags_that_differ(s, x):
    return bin(s ^ x).count("1")


class Ordinary(unittest.TestCase):
    def test_one_tower(self):
        self.assertEqual(far(1, 0, 1, [0]), [-33])
        self.assertEqual(far(1, 1, 0, [0]), [1])
        self.assertEqual(far(1, 0, 1, [1]), [1])
        self.assertEqual(far(1, 1, 0, [1]), [1])
        self.assertEqual(far(1, 0, 1, [2]), [-33])
        self.assertEqual(far(1, 1, 0, [2]), [-33])
        self.assertEqual(far(1, 0, 1, [3]), [1])
        self.assertEqual(far(1, 1, 0, [3]), [-33])

    def test_two_towers_one_always_up_one_always_down(self):
        t = [15, 0]
        self.assertEqual([far(2, 2, x, t) for x in range(4)], [[1], [2], [0], [1]])
        self.assertEqual([far(2, 0, x, t) for x in range(4)], [[0], [1], [-33], [-33]])
        self.assertEqual([far(2, 3, x, t) for x in range(4)], [[-33], [1], [-33], [0]])
        self.assertEqual([far(2, 1, x, t) for x in range(4)], [[-33], [0], [-33], [-33]])

    def test_two_towers_that_go_round(self):
        # 0, 2, 3, 1 and 0 again.
        t = [12, 5]
        self.assertEqual([far(2, 0, x, t) for x in (0, 2, 3, 1)], [[0], [1], [2], [3]])
        self.assertEqual([far(2, 3, x, t) for x in (3, 1, 0, 2)], [[0], [1], [2], [3]])

    def test_two_that_would_change_at_once_and_together_come_back(self):
        t = [12, 10]
        self.assertEqual([far(2, 1, x, t) for x in range(4)], [[1], [0], [-33], [1]])
        self.assertEqual([far(2, 2, x, t) for x in range(4)], [[1], [-33], [0], [1]])

    def test_three_towers_that_copy_in_a_ring(self):
        # 1, 3, 2, 6, 4, 5 lead round to 1; 1, 2, 4 lead to 0, and 3, 6, 5 to 7.
        t = [240, 170, 204]
        self.assertEqual([far(3, 1, x, t) for x in range(8)], [[1], [0], [2], [1], [4], [5], [3], [2]])
        self.assertEqual([far(3, 6, x, t) for x in range(8)], [[2], [3], [5], [4], [1], [2], [0], [1]])
        self.assertEqual([far(3, 7, x, t) for x in range(8)], [[-33]] * 7 + [[0]])

    def test_four_towers_whose_flags_only_go_down(self):
        t = [0, 0, 0, 0]
        self.assertEqual(far(4, 15, 0, t), [4])
        self.assertEqual(far(4, 15, 6, t), [2])
        self.assertEqual(far(4, 11, 2, t), [2])
        self.assertEqual(far(4, 11, 4, t), [-33])
        self.assertEqual(far(4, 0, 15, t), [-33])

    def test_four_towers_along_one_way(self):
        t = rules_along(4, [5, 13, 12, 8, 10, 2])
        self.assertEqual([far(4, 5, x, t) for x in (5, 13, 12, 8, 10, 2)], [[0], [1], [2], [3], [4], [5]])
        self.assertEqual(far(4, 12, 2, t), [3])
        self.assertEqual(far(4, 12, 5, t), [-33])
        self.assertEqual(far(4, 5, 4, t), [-33])

    def test_as_many_changes_as_flags_differ_where_all_always_change(self):
        for n in range(1, 5):
            for s in range(2 ** n):
                for x in range(2 ** n):
                    with self.subTest(n=n, s=s, x=x):
                        self.assertEqual(far(n, s, x, TURN[n]), [flags_that_differ(s, x)])


class MoreThanOneWay(unittest.TestCase):
    def check(self, n, s, x, changing, answer):
        """Asks for every numbering of the towers, so that the shorter way is
        met first in some and last in others."""
        t = rules_for(n, changing)
        for names in itertools.permutations(range(n)):
            args = (n, renumbered_state(s, names), renumbered_state(x, names), renumbered_rules(t, names))
            with self.subTest(args=args):
                self.assertEqual(far(*args), answer)

    def test_of_one_change_or_three(self):
        self.check(2, 0, 2, {0: [0, 1], 1: [1], 3: [0]}, [1])

    def test_of_two_changes_each(self):
        self.check(2, 0, 3, {0: [0, 1], 1: [1], 2: [0]}, [2])

    def test_of_two_changes_or_four_or_six(self):
        # 0, 2, 6 or 0, 1, 3, 7, 6 or 0, 4, 5, 1, 3, 7, 6.
        self.check(3, 0, 6, {0: [0, 1, 2], 2: [2], 1: [1], 3: [2], 7: [0], 4: [0], 5: [2]}, [2])

    def test_of_ways_that_part_and_meet_again(self):
        # To 3 by 1 or by 2; from there to 15 by 7, or by 11, 10, 14.
        changing = {0: [0, 1], 1: [1], 2: [0], 3: [2, 3], 7: [3], 11: [0], 10: [2], 14: [0]}
        self.check(4, 0, 15, changing, [4])

    def test_of_three_changes_or_fifteen(self):
        # The way through all states, with one change from 3 to 11 besides.
        row = all_states_in_a_row(4)
        changing = changes_along(row)
        self.assertEqual(changing[3], [0])
        changing[3] = [0, 3]
        self.check(4, 0, 11, changing, [3])
        self.check(4, 0, 8, changing, [5])


class ReckonedInAnotherWay(unittest.TestCase):
    def test_many_rules_and_every_two_states(self):
        for n in range(1, 5):
            for t in many_rules(n):
                table = fewest_between_all(n, t)
                for s in range(2 ** n):
                    for x in range(2 ** n):
                        self.assertEqual(far(n, s, x, t), expected_far(table, s, x), (n, s, x, t))

    def test_there_is_a_way_to_just_what_reach_answers(self):
        for n in range(1, 5):
            for t in many_rules(n)[::3]:
                for s in range(2 ** n):
                    states = [x for x in range(2 ** n) if far(n, s, x, t) != [-33]]
                    self.assertEqual([len(states)] + states, reach(n, s, t), (n, s, t))


class Edges(unittest.TestCase):
    def test_x_is_s_at_rest(self):
        for n in range(1, 5):
            for s in range(2 ** n):
                with self.subTest(n=n, s=s):
                    self.assertEqual(far(n, s, s, STAY[n]), [0])

    def test_x_is_s_with_changes_that_lead_away_and_back(self):
        for n in range(1, 5):
            for s in range(2 ** n):
                with self.subTest(n=n, s=s):
                    self.assertEqual(far(n, s, s, TURN[n]), [0])

    def test_x_is_s_with_no_way_back(self):
        for n in range(1, 5):
            self.assertEqual(far(n, 0, 0, [GREATEST_RULE[n]] * n), [0])

    def test_one_change(self):
        for n in range(1, 5):
            for s in range(2 ** n):
                for j in range(n):
                    t = rules_for(n, {s: [j]})
                    with self.subTest(n=n, s=s, j=j):
                        self.assertEqual(far(n, s, s ^ 2 ** j, t), [1])
                        self.assertEqual(far(n, s ^ 2 ** j, s, t), [-33])

    def test_more_changes_than_towers(self):
        self.assertEqual(far(2, 0, 2, rules_along(2, [0, 1, 3, 2])), [3])
        self.assertEqual(far(3, 0, 7, rules_along(3, [0, 1, 3, 2, 6, 7])), [5])
        self.assertEqual(far(4, 0, 15, rules_along(4, [0, 1, 3, 2, 6, 14, 15])), [6])
        self.assertEqual(far(4, 9, 0, rules_along(4, [9, 11, 10, 14, 6, 4, 0])), [6])

    def test_the_longest_way(self):
        for n in range(1, 5):
            row = all_states_in_a_row(n)
            t = rules_along(n, row)
            self.assertEqual(len(row), 2 ** n)
            with self.subTest(n=n):
                self.assertEqual(far(n, row[0], row[-1], t), [2 ** n - 1])
                self.assertEqual(far(n, row[-1], row[0], t), [-33])

    def test_every_part_of_the_longest_way(self):
        for n in range(1, 5):
            row = all_states_in_a_row(n)
            t = rules_along(n, row)
            for a, b in itertools.product(range(2 ** n), repeat=2):
                with self.subTest(n=n, s=row[a], x=row[b]):
                    self.assertEqual(far(n, row[a], row[b], t), [b - a] if a <= b else [-33])

    def test_the_longest_way_of_a_ring(self):
        for n in range(2, 5):
            row = all_states_in_a_row(n)
            t = rules_along(n, row + row[:1])
            for k in range(2 ** n):
                with self.subTest(n=n, s=row[k]):
                    self.assertEqual(far(n, row[k], row[k - 1], t), [2 ** n - 1])

    def test_a_flag_that_changes_there_and_back(self):
        # Only one flag differs, and it won't change until another is up.
        self.assertEqual(far(2, 0, 2, rules_along(2, [0, 1, 3, 2])), [3])
        self.assertEqual(far(3, 0, 4, rules_along(3, [0, 1, 5, 4])), [3])
        self.assertEqual(far(3, 7, 3, rules_along(3, [7, 5, 1, 3])), [3])
        self.assertEqual(far(4, 6, 14, rules_along(4, [6, 2, 0, 8, 12, 14])), [5])

    def test_x_is_not_come_to(self):
        for n in range(1, 5):
            for s in range(2 ** n):
                for x in range(2 ** n):
                    if x != s:
                        with self.subTest(n=n, s=s, x=x):
                            self.assertEqual(far(n, s, x, STAY[n]), [-33])

    def test_x_is_not_come_to_though_s_is_from_x(self):
        for n in range(1, 5):
            last = 2 ** n - 1
            with self.subTest(n=n):
                self.assertEqual(far(n, last, 0, [0] * n), [n])
                self.assertEqual(far(n, 0, last, [0] * n), [-33])

    def test_x_is_a_state_at_rest_that_is_never_come_to(self):
        t = rules_for(2, {0: [0, 1], 1: [0], 2: [1]})
        self.assertEqual([far(2, s, 3, t) for s in range(4)], [[-33], [-33], [-33], [0]])

    def test_the_answer_is_one_number(self):
        for n in range(1, 5):
            for t in many_rules(n)[::9]:
                for s in range(2 ** n):
                    for x in range(2 ** n):
                        self.assertEqual(len(far(n, s, x, t)), 1)


class Refusals(unittest.TestCase):
    def refused(self, n, s, x, t):
        with self.subTest(n=n, s=s, x=x, t=t):
            self.assertEqual(far(n, s, x, t), [-22])

    def test_no_right_number_of_towers(self):
        for n in (0, 5, 6, 10, 11, GREATEST_NUMBER):
            for length in range(11):
                self.refused(n, 0, 0, [0] * length)
                self.refused(n, 1, 0, [1] * length)

    def test_no_rules(self):
        for n in range(1, 5):
            self.refused(n, 0, 0, [])
            self.refused(n, 0, 1, [])

    def test_one_rule_too_few_or_too_many(self):
        for n in range(1, 5):
            self.refused(n, 0, 0, STAY[n][:-1])
            self.refused(n, 0, 0, STAY[n] + [0])
            self.refused(n, 0, 1, TURN[n][:-1])
            self.refused(n, 0, 1, TURN[n] + [GREATEST_RULE[n]])

    def test_any_other_number_of_rules(self):
        for n in range(1, 5):
            for length in range(11):
                if length != n:
                    self.refused(n, 0, 0, [0] * length)
                    self.refused(n, 2 ** n - 1, 0, [GREATEST_RULE[n]] * length)

    def test_a_rule_not_below_the_bound(self):
        for n in range(1, 4):
            for rule in (GREATEST_RULE[n] + 1, GREATEST_RULE[n] + 2, 65535):
                for j in range(n):
                    t = list(TURN[n])
                    t[j] = rule
                    self.refused(n, 0, 0, t)
                    self.refused(n, 0, 1, t)
                    self.refused(n, 2 ** n - 1, 0, t)

    def test_s_is_no_state(self):
        for n in range(1, 5):
            for s in (2 ** n, 2 ** n + 1, 2 ** (n + 1), GREATEST_NUMBER):
                for t in ([0] * n, STAY[n], TURN[n]):
                    for x in (0, 2 ** n - 1):
                        self.refused(n, s, x, t)

    def test_x_is_no_state(self):
        for n in range(1, 5):
            for x in (2 ** n, 2 ** n + 1, 2 ** (n + 1), GREATEST_NUMBER):
                for t in ([0] * n, STAY[n], TURN[n]):
                    for s in (0, 2 ** n - 1):
                        self.refused(n, s, x, t)

    def test_neither_s_nor_x_is_a_state(self):
        for n in range(1, 5):
            for state in (2 ** n, GREATEST_NUMBER):
                self.refused(n, state, state, STAY[n])
                self.refused(n, state, state, TURN[n])
                self.refused(n, state, 2 ** n + 1, TURN[n])

    def test_22_ahead_of_33(self):
        for n in range(1, 5):
            self.assertEqual(far(n, 0, 1, STAY[n]), [-33])
            self.refused(n, 0, 1, STAY[n][:-1])
            self.refused(n, 0, 1, STAY[n] + [0])
            self.refused(n, 0, 2 ** n, STAY[n])
            self.refused(n, 2 ** n, 1, STAY[n])
            self.refused(n, 2 ** n, GREATEST_NUMBER, STAY[n])
        for n in range(1, 4):
            self.refused(n, 0, 1, STAY[n][:-1] + [GREATEST_RULE[n] + 1])
        self.refused(0, 0, 1, [])
        self.refused(5, 0, 1, [0] * 5)
        self.refused(GREATEST_NUMBER, 0, 1, [0])

    def test_several_faults_are_one_refusal(self):
        self.refused(0, 0, 0, [0] * 10)
        self.refused(0, GREATEST_NUMBER, GREATEST_NUMBER, [65535] * 10)
        self.refused(5, 32, 32, [65535] * 5)
        self.refused(GREATEST_NUMBER, GREATEST_NUMBER, GREATEST_NUMBER, [])
        self.refused(GREATEST_NUMBER, GREATEST_NUMBER, GREATEST_NUMBER, [65535] * 10)
        self.refused(1, 2, 2, [4])
        self.refused(2, 4, 0, [16])
        self.refused(2, 0, 4, [10, 16])
        self.refused(3, 8, 9, [256] * 4)
        self.refused(4, 16, 0, [65535] * 3)
        self.refused(4, 0, GREATEST_NUMBER, [65535] * 5)


CALLS = [
    (1, 0, 1, [1]),
    (2, 2, 1, [15, 0]),
    (2, 1, 2, [12, 10]),
    (3, 1, 5, [240, 170, 204]),
    (4, 0, 15, [21845, 13107, 3855, 255]),
    (4, 15, 15, [43690, 52428, 61680, 65280]),
    (4, 15, 14, [43690, 52428, 61680, 65280]),
    (0, 0, 0, []),
    (2, 0, 0, [0, 16]),
    (3, 8, 0, [1, 2, 3]),
    (3, 0, 8, [1, 2, 3]),
    (4, 0, 0, [9, 8, 7, 6, 5, 4, 3, 2, 1, 0]),
]


class EachCallByItself(unittest.TestCase):
    def test_arguments_are_after_the_call_as_before(self):
        for n, s, x, t in CALLS:
            arguments = [n, s, x, list(t)]
            far(n, s, x, t)
            self.assertEqual([n, s, x, t], arguments)

    def test_rules_are_not_changed_for_a_while_either(self):
        for n, s, x, t in CALLS:
            self.assertEqual(far(n, s, x, GuardedList(t)), far(n, s, x, t))

    def test_same_arguments_same_answer(self):
        for n, s, x, t in CALLS:
            self.assertEqual(far(n, s, x, t), far(n, s, x, t))
        first = [far(n, s, x, t) for n, s, x, t in CALLS]
        second = [far(n, s, x, t) for n, s, x, t in reversed(CALLS)]
        self.assertEqual(first, second[::-1])

    def test_an_answer_that_was_changed_does_not_come_back(self):
        for n, s, x, t in CALLS:
            answer = far(n, s, x, t)
            kept = list(answer)
            answer.append(77)
            self.assertEqual(far(n, s, x, t), kept)

    def test_rules_changed_by_the_caller_are_read_anew(self):
        t = [15, 0]
        self.assertEqual(far(2, 0, 3, t), [-33])
        t[1] = 15
        self.assertEqual(far(2, 0, 3, t), [2])


class Interface(unittest.TestCase):
    def test_arguments(self):
        self.assertEqual(list(inspect.signature(far).parameters), ["n", "s", "x", "t"])
        self.assertEqual(far(n=2, s=3, x=1, t=[15, 0]), [1])

    def test_the_answer_is_a_list_of_whole_numbers(self):
        for n, s, x, t in CALLS:
            answer = far(n, s, x, t)
            self.assertIs(type(answer), list)
            for number in answer:
                self.assertIs(type(number), int)


if __name__ == "__main__":
    unittest.main()
