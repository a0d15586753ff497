"""Tests of towerchanges.alone.may."""

import inspect
import itertools
import unittest

from towerchanges.alone import may
from tests.helpers import (
    GREATEST_NUMBER, GREATEST_RULE, STAY, TURN, GuardedList, after_acting_alone,
    all_states_in_a_row, changes_along, many_rules, renumbered_rules, renumbered_state, rules_along,
    rules_for, who_comes_where,
)


def states_at_rest(n, t):
    return [s for s in range(2 ** n) if all(after_acting_alone(j, s, t) == s for j in range(n))]


def may_by_the_table(n, t):
    """The answer for each state, by the table of who comes where."""
    table = who_comes_where(n, t)
    rests = states_at_rest(n, t)
    # Whether some state at rest is come to, of each state.
    can = [any(table[s][x] for x in rests) for s in range(2 ** n)]
    answers = []
    for s in range(2 ** n):
        cannot = [x for x in range(2 ** n) if table[s][x] and not can[x]]
        answers.append([2] if not cannot else [1] if can[s] else [0])
    return answers


def grown(n, t, states):
    """The states, and all those of which changes lead into them."""
    states = set(states)
    while True:
        more = {s for s in range(2 ** n) if any(after_acting_alone(j, s, t) in states for j in range(n))} - states
        if not more:
            return states
        states |= more


def may_backwards(n, t):
    """The answer for each state, reckoned back from the states at rest, and
    then back from all the states that those don't grow to."""
    can = grown(n, t, states_at_rest(n, t))
    may_fail = grown(n, t, set(range(2 ** n)) - can)
    return [[0] if s not in can else [1] if s in may_fail else [2] for s in range(2 ** n)]


class Ordinary(unittest.TestCase):
    def check(self, n, t, answers):
        self.assertEqual([may(n, s, t) for s in range(2 ** n)], [[number] for number in answers])

    def test_one_tower(self):
        self.check(1, [0], [2, 2])
        self.check(1, [1], [0, 0])
        self.check(1, [2], [2, 2])
        self.check(1, [3], [2, 2])

    def test_two_towers(self):
        # One always up, one always down.
        self.check(2, [15, 0], [2, 2, 2, 2])
        # Tower 0 does as tower 1 does, tower 1 the other of tower 0: round and round.
        self.check(2, [12, 5], [0, 0, 0, 0])
        # Tower 0 always changes, tower 1 stays.
        self.check(2, [5, 12], [0, 0, 0, 0])
        # Tower 0 always changes while tower 1 is down, which stays.
        self.check(2, [9, 12], [0, 0, 2, 2])
        # The same, but tower 1 goes up where tower 0 is up: from 1 to 3, at rest.
        self.check(2, [9, 14], [2, 2, 2, 2])

    def test_three_towers(self):
        # They copy in a ring: one may go round, but never so that rest is lost.
        self.check(3, [240, 170, 204], [2, 2, 2, 2, 2, 2, 2, 2])
        # They turn from one another in a ring.
        self.check(3, [15, 85, 51], [0, 0, 0, 0, 0, 0, 0, 0])
        # From 0 to 1, at rest, or to 2, whence there and back with 3; the others stay.
        self.check(3, rules_for(3, {0: [0, 1], 2: [0], 3: [0]}), [1, 2, 0, 0, 2, 2, 2, 2])

    def test_four_towers(self):
        self.check(4, [65535] * 4, [2] * 16)
        # Towers 0 and 1 go round, whatever the others do.
        self.check(4, [52428, 21845, 61680, 61680], [0] * 16)
        # 0 leads to 1 or to 4, 1 to 3 or to 9; 4 and 5 go there and back, 6 leads
        # to 4 or to 7; 3, 7, 9 and all else are at rest.
        t = rules_for(4, {0: [0, 2], 1: [1, 3], 4: [0], 5: [0], 6: [0, 1]})
        self.check(4, t, [1, 2, 2, 2, 0, 0, 1, 2, 2, 2, 2, 2, 2, 2, 2, 2])


class ReckonedInAnotherWay(unittest.TestCase):
    def test_many_rules_and_every_state(self):
        # With one tower no ways part, so 1 is never answered.
        for n, numbers in ((1, {0, 2}), (2, {0, 1, 2}), (3, {0, 1, 2}), (4, {0, 1, 2})):
            met = set()
            for t in many_rules(n):
                answers = [may(n, s, t) for s in range(2 ** n)]
                self.assertEqual(answers, may_by_the_table(n, t), (n, t))
                self.assertEqual(answers, may_backwards(n, t), (n, t))
                met |= {answer[0] for answer in answers}
            self.assertEqual(met, numbers, n)

    def test_whatever_the_towers_are_called(self):
        for n in range(1, 5):
            for t in many_rules(n)[::41]:
                for names in itertools.permutations(range(n)):
                    others = renumbered_rules(t, names)
                    for s in range(2 ** n):
                        self.assertEqual(may(n, renumbered_state(s, names), others), may(n, s, t), (n, s, t, names))


class Edges(unittest.TestCase):
    def check(self, n, changing, answers):
        """Asks for every numbering of the towers, so that the states are gone
        through in other orders too."""
        t = rules_for(n, changing)
        for names in itertools.permutations(range(n)):
            others = renumbered_rules(t, names)
            for s, number in enumerate(answers):
                with self.subTest(n=n, t=t, names=names, s=s):
                    self.assertEqual(may(n, renumbered_state(s, names), others), [number])

    def test_s_itself_is_at_rest_and_so_are_all(self):
        for n in range(1, 5):
            self.check(n, {}, [2] * 2 ** n)

    def test_s_itself_is_at_rest_and_no_other(self):
        # All others lead there, by whatever changes.
        for n in range(1, 5):
            towers = list(range(n))
            for rest in range(2 ** n):
                t = rules_for(n, {s: towers for s in range(2 ** n) if s != rest})
                for s in range(2 ** n):
                    with self.subTest(n=n, rest=rest, s=s):
                        self.assertEqual(may(n, s, t), [2])

    def test_s_itself_is_at_rest_and_the_others_go_round(self):
        self.check(2, {0: [0, 1], 1: [0], 2: [1]}, [0, 0, 0, 2])
        self.check(3, {1: [1], 3: [0], 2: [2], 6: [0], 7: [1], 5: [2], 4: []}, [2, 0, 0, 0, 2, 0, 0, 0])

    def test_one_change_to_rest_or_one_to_another_trap(self):
        # 0 to 1, at rest, or to 2, whence there and back with 3.
        self.check(2, {0: [0, 1], 2: [0], 3: [0]}, [1, 2, 0, 0])

    def test_rest_is_near_and_another_trap_far(self):
        # Along the row all the way to the last two, that go there and back; the
        # first may change to 8, at rest, besides.
        row = [0, 1, 3, 2, 6, 7, 5, 4, 12, 13, 15, 14, 10]
        changing = changes_along(row)
        changing[10] = [2]
        changing[0] = [0, 3]
        answers = [0] * 16
        answers[0] = 1
        for s in (8, 9, 11):
            answers[s] = 2
        self.check(4, changing, answers)

    def test_rest_is_far_and_another_trap_near(self):
        # Along the row to 10, at rest; the first may change to 8 besides, that
        # goes there and back with 9.
        row = [0, 1, 3, 2, 6, 7, 5, 4, 12, 13, 15, 14, 10]
        changing = changes_along(row)
        changing[0] = [0, 3]
        changing[8] = [0]
        changing[9] = [0]
        answers = [2] * 16
        answers[0] = 1
        answers[8] = answers[9] = 0
        self.check(4, changing, answers)

    def test_a_way_out_to_another_trap_at_any_place_of_a_long_way_to_rest(self):
        # Along the row of the states without tower 3's flag to the last, at rest;
        # at one place tower 3 may go up besides, where tower 0 always changes.
        row = all_states_in_a_row(3)
        for place in range(7):
            changing = changes_along(row)
            changing[row[place]].append(3)
            changing.update({s: [0] for s in range(8, 16)})
            t = rules_for(4, changing)
            for k, s in enumerate(row):
                with self.subTest(place=place, s=s):
                    self.assertEqual(may(4, s, t), [1 if k <= place else 2])
            for s in range(8, 16):
                with self.subTest(place=place, s=s):
                    self.assertEqual(may(4, s, t), [0])

    def test_a_round_out_of_which_both_rest_and_another_trap_are_come_to(self):
        # 0, 1, 3, 2 go round; 1 may change to 5, at rest, 2 to 6, whence there
        # and back with 4; 7 leads to 5 alone.
        self.check(3, {0: [0], 1: [1, 2], 3: [0], 2: [1, 2], 6: [1], 4: [1], 7: [1]}, [1, 1, 1, 1, 0, 2, 0, 2])

    def test_a_round_out_of_which_rest_alone_is_come_to(self):
        # One may go round without an end, but rest stays within reach: 2.
        for way_out in range(4):
            changing = {0: [0], 1: [1], 3: [0], 2: [1]}
            changing[way_out] = changing[way_out] + [2]
            self.check(3, changing, [2] * 8)

    def test_a_round_out_of_which_another_trap_alone_is_come_to(self):
        for way_out in range(4):
            changing = {0: [0], 1: [1], 3: [0], 2: [1], 4: [0], 5: [0]}
            # Ways out by tower 2 lead to 4 and 5, or to 6 and 7 that lead there.
            changing[6] = [1]
            changing[7] = [1]
            changing[way_out] = changing[way_out] + [2]
            self.check(3, changing, [0] * 8)

    def test_no_state_at_rest_is_come_to_though_there_is_one_elsewhere(self):
        # 0 and 1 go there and back; 2 and 3 are at rest.
        self.check(2, {0: [0], 1: [0]}, [0, 0, 2, 2])
        # 7 is at rest; all others lead to 0 and 1, that go there and back.
        self.check(3, {0: [0], 1: [0], 2: [1], 3: [1], 4: [2], 5: [2], 6: [1]}, [0, 0, 0, 0, 0, 0, 0, 2])

    def test_no_state_at_rest_at_all(self):
        for n in range(1, 5):
            self.check(n, {s: [0] for s in range(2 ** n)}, [0] * 2 ** n)
            self.check(n, {s: [n - 1] for s in range(2 ** n)}, [0] * 2 ** n)
        # All lead to 3 and 2, that go there and back.
        self.check(2, {0: [0], 1: [1], 3: [0], 2: [0]}, [0, 0, 0, 0])

    def test_a_state_at_rest_that_is_never_come_to(self):
        t = rules_along(3, [1, 3, 2, 6, 7, 5, 1])
        self.assertEqual([may(3, s, t) for s in range(8)], [[2], [0], [0], [0], [2], [0], [0], [0]])
        # Flags only go up, and in 0 none does: 0 is at rest and never come to.
        for n in range(2, 5):
            changing = {s: [j for j in range(n) if not s & 2 ** j] for s in range(1, 2 ** n)}
            self.check(n, changing, [2] * 2 ** n)

    def test_a_trap_of_all_states(self):
        for n in range(1, 5):
            row = all_states_in_a_row(n)
            for t in (TURN[n], rules_along(n, row + row[:1])):
                for s in range(2 ** n):
                    with self.subTest(n=n, t=t, s=s):
                        self.assertEqual(may(n, s, t), [0])

    def test_all_states_lead_to_one_at_rest_by_one_way_alone(self):
        for n in range(1, 5):
            t = rules_along(n, all_states_in_a_row(n))
            for s in range(2 ** n):
                with self.subTest(n=n, s=s):
                    self.assertEqual(may(n, s, t), [2])

    def test_several_traps_each_a_state_at_rest(self):
        # 0 leads to 1 and to 2, and so does 3.
        self.check(2, {0: [0, 1], 3: [0, 1]}, [2, 2, 2, 2])

    def test_several_traps_none_of_them_at_rest(self):
        # 0 leads to 4 and 6, that go there and back, or to 1 and 3, that do too.
        self.check(3, {0: [0, 2], 2: [1], 4: [1], 6: [1], 1: [1], 3: [1], 5: [1], 7: [1]}, [0] * 8)

    def test_several_traps_of_either_sort(self):
        # 0 leads to 1 and to 2, at rest, and to 4, whence there and back with 5;
        # 3 leads to 1 and 2 alone, 7 to 5 alone, 6 to 2 and 4.
        changing = {0: [0, 1, 2], 3: [0, 1], 4: [0], 5: [0], 7: [1], 6: [1, 2]}
        self.check(3, changing, [1, 2, 2, 2, 0, 0, 1, 0])

    def test_two_that_would_change_at_once_and_together_come_back(self):
        # Each copies the other, or turns from it: all at once they'd go to and
        # fro without an end, alone each comes to rest.
        for t in ([12, 10], [3, 5]):
            for s in range(4):
                self.assertEqual(may(2, s, t), [2])
        # The same beside a third that stays, and beside one that always changes.
        for s in range(8):
            self.assertEqual(may(3, s, [204, 170, 240]), [2])
            self.assertEqual(may(3, s, [204, 170, 15]), [0])

    def test_greatest_rules_and_rules_of_nought(self):
        for n in range(1, 5):
            for s in range(2 ** n):
                with self.subTest(n=n, s=s):
                    self.assertEqual(may(n, s, [0] * n), [2])
                    self.assertEqual(may(n, s, [GREATEST_RULE[n]] * n), [2])


class Refusals(unittest.TestCase):
    def refused(self, n, s, t):
        with self.subTest(n=n, s=s, t=t):
            self.assertEqual(may(n, s, t), [-22])

    def test_no_right_number_of_towers(self):
        for n in (0, 5, 6, 10, 11, GREATEST_NUMBER):
            for length in range(11):
                self.refused(n, 0, [0] * length)
                self.refused(n, 1, [1] * length)

    def test_no_rules(self):
        for n in range(1, 5):
            self.refused(n, 0, [])

    def test_one_rule_too_few_or_too_many(self):
        for n in range(1, 5):
            for t in (STAY[n], TURN[n]):
                self.refused(n, 0, t[:-1])
                self.refused(n, 0, t + [0])
                self.refused(n, 2 ** n - 1, t + [GREATEST_RULE[n]])

    def test_any_other_number_of_rules(self):
        for n in range(1, 5):
            for length in range(11):
                if length != n:
                    self.refused(n, 0, [0] * length)
                    self.refused(n, 2 ** n - 1, [GREATEST_RULE[n]] * length)

    def test_a_rule_not_below_the_bound(self):
        for n in range(1, 4):
            for rule in (GREATEST_RULE[n] + 1, GREATEST_RULE[n] + 2, 65535):
                for j in range(n):
                    for t in (list(STAY[n]), list(TURN[n])):
                        t[j] = rule
                        self.refused(n, 0, t)
                        self.refused(n, 2 ** n - 1, t)

    def test_no_state(self):
        for n in range(1, 5):
            for s in (2 ** n, 2 ** n + 1, 2 ** (n + 1), GREATEST_NUMBER):
                self.refused(n, s, [0] * n)
                self.refused(n, s, STAY[n])
                self.refused(n, s, TURN[n])

    def test_several_faults_are_one_refusal(self):
        self.refused(0, 0, [0] * 10)
        self.refused(0, GREATEST_NUMBER, [65535] * 10)
        self.refused(5, 32, [65535] * 5)
        self.refused(GREATEST_NUMBER, GREATEST_NUMBER, [])
        self.refused(GREATEST_NUMBER, GREATEST_NUMBER, [65535] * 10)
        self.refused(1, 2, [4])
        self.refused(2, 4, [16])
        self.refused(2, 4, [10, 16])
        self.refused(3, 8, [256] * 4)
        self.refused(4, 16, [65535] * 3)
        self.refused(4, GREATEST_NUMBER, [65535] * 5)


CALLS = [
    (1, 0, [1]),
    (1, 0, [3]),
    (2, 2, [15, 0]),
    (2, 1, [12, 10]),
    (2, 0, [9, 12]),
    (2, 0, rules_for(2, {0: [0, 1], 2: [0], 3: [0]})),
    (3, 4, [240, 170, 204]),
    (4, 0, [21845, 13107, 3855, 255]),
    (4, 15, [43690, 52428, 61680, 65280]),
    (0, 0, []),
    (2, 0, [0, 16]),
    (3, 8, [1, 2, 3]),
    (4, 0, [9, 8, 7, 6, 5, 4, 3, 2, 1, 0]),
]


class EachCallByItself(unittest.TestCase):
    def test_arguments_are_after_the_call_as_before(self):
        for n, s, t in CALLS:
            arguments = [n, s, list(t)]
            may(n, s, t)
            self.assertEqual([n, s, t], arguments)

    def test_rules_are_not_changed_for_a_while_either(self):
        for n, s, t in CALLS:
            self.assertEqual(may(n, s, GuardedList(t)), may(n, s, t))

    def test_same_arguments_same_answer(self):
        for n, s, t in CALLS:
            self.assertEqual(may(n, s, t), may(n, s, t))
        first = [may(n, s, t) for n, s, t in CALLS]
        second = [may(n, s, t) for n, s, t in reversed(CALLS)]
        self.assertEqual(first, second[::-1])

    def test_an_answer_that_was_changed_does_not_come_back(self):
        for n, s, t in CALLS:
            answer = may(n, s, t)
            kept = list(answer)
            answer.append(77)
            self.assertEqual(may(n, s, t), kept)

    def test_rules_changed_by_the_caller_are_read_anew(self):
        t = [15, 0]
        self.assertEqual(may(2, 0, t), [2])
        t[1] = 3
        self.assertEqual(may(2, 0, t), [0])


class Interface(unittest.TestCase):
    def test_arguments(self):
        self.assertEqual(list(inspect.signature(may).parameters), ["n", "s", "t"])
        self.assertEqual(may(n=2, s=3, t=[15, 0]), [2])

    def test_the_answer_is_a_list_of_one_whole_number(self):
        for n, s, t in CALLS:
            answer = may(n, s, t)
            self.assertIs(type(answer), list)
            self.assertEqual(len(answer), 1)
            self.assertIs(type(answer[0]), int)


if __name__ == "__main__":
    unittest.main()
