"""Tests of towerchanges.alone.traps."""

import inspect
import itertools
import unittest

from towerchanges.alone import moves, reach, traps
from tests.helpers import (
    GREATEST_NUMBER, GREATEST_RULE, STAY, TURN, GuardedList, after_acting_alone,
    all_states_in_a_row, changes_along, many_rules, renumbered_rules, renumbered_state, rules_along,
    rules_for, who_comes_where,
)


def traps_by_the_table(n, t):
    """The traps as lists of states, by the table of who comes where."""
    table = who_comes_where(n, t)
    states = range(2 ** n)
    found = []
    for a in states:
        together = [b for b in states if table[a][b] and table[b][a]]
        led_to = [after_acting_alone(j, b, t) for b in together for j in range(n)]
        if all(b in together for b in led_to) and together not in found:
            found.append(together)
    return found


def traps_by_all_choices(n, t):
    """The traps as lists of states: of all choices of states out of which no
    change leads those that have no such choice within them.

    A choice is a number: state s, if it's chosen, counts 2 to the power of s.
    """
    led_to = [sum(2 ** b for b in {after_acting_alone(j, a, t) for j in range(n)}) for a in range(2 ** n)]
    shut = []
    for choice in range(1, 2 ** 2 ** n):
        if all(led_to[a] & ~choice == 0 for a in range(2 ** n) if choice >> a & 1):
            # What lies within a choice is a smaller number: it came ahead.
            if all(smaller & ~choice for smaller in shut):
                shut.append(choice)
    return [[a for a in range(2 ** n) if choice >> a & 1] for choice in shut]


def expected_traps(found):
    answer = [len(found)]
    for states in sorted(sorted(states) for states in found):
        answer += [states[0], len(states)]
    return answer


def in_twos(answer):
    return list(zip(answer[1::2], answer[2::2]))


def there_and_back(states):
    """Changes that lead along the states, and back along them."""
    along, back = changes_along(states), changes_along(states[::-1])
    return {s: along.get(s, []) + back.get(s, []) for s in states}


class Ordinary(unittest.TestCase):
    def test_one_tower(self):
        self.assertEqual(traps(1, [0]), [1, 0, 1])
        self.assertEqual(traps(1, [1]), [1, 0, 2])
        self.assertEqual(traps(1, [2]), [2, 0, 1, 1, 1])
        self.assertEqual(traps(1, [3]), [1, 1, 1])

    def test_two_towers(self):
        # One always up, one always down.
        self.assertEqual(traps(2, [15, 0]), [1, 1, 1])
        # Tower 0 does as tower 1 does, tower 1 the other of tower 0: round and round.
        self.assertEqual(traps(2, [12, 5]), [1, 0, 4])
        # Tower 0 always changes, tower 1 stays.
        self.assertEqual(traps(2, [5, 12]), [2, 0, 2, 2, 2])
        # Tower 0 stays, tower 1 always changes.
        self.assertEqual(traps(2, [10, 3]), [2, 0, 2, 1, 2])

    def test_three_towers(self):
        # They copy in a ring: the six others lead round, but out to 0 and to 7 too.
        self.assertEqual(traps(3, [240, 170, 204]), [2, 0, 1, 7, 1])
        # Two stay, the one between them always changes.
        self.assertEqual(traps(3, [170, 51, 240]), [4, 0, 2, 1, 2, 4, 2, 5, 2])
        # They turn from one another in a ring: 0 and 7 lead into the six others.
        self.assertEqual(traps(3, [15, 85, 51]), [1, 1, 6])

    def test_four_towers(self):
        self.assertEqual(traps(4, [65535] * 4), [1, 15, 1])
        self.assertEqual(traps(4, rules_along(4, [5, 13, 12, 8, 10, 2])),
                         [11, 0, 1, 1, 1, 2, 1, 3, 1, 4, 1, 6, 1, 7, 1, 9, 1, 11, 1, 14, 1, 15, 1])
        # Towers 0 and 1 go round; tower 2 stays, tower 3 does as it does.
        self.assertEqual(traps(4, [52428, 21845, 61680, 61680]), [2, 0, 4, 12, 4])


class ReckonedInAnotherWay(unittest.TestCase):
    def test_many_rules(self):
        for n in range(1, 5):
            for t in many_rules(n):
                self.assertEqual(traps(n, t), expected_traps(traps_by_the_table(n, t)), (n, t))

    def test_all_choices_of_states_of_up_to_three_towers(self):
        for n in range(1, 4):
            for t in many_rules(n):
                self.assertEqual(traps(n, t), expected_traps(traps_by_all_choices(n, t)), (n, t))

    def test_all_choices_of_states_of_four_towers(self):
        ring = all_states_in_a_row(4)
        lists = many_rules(4)[::60] + [TURN[4], [65535] * 4, rules_along(4, ring), rules_along(4, ring + ring[:1])]
        for t in lists:
            self.assertEqual(traps(4, t), expected_traps(traps_by_all_choices(4, t)), t)

    def test_whatever_the_towers_are_called(self):
        for n in range(1, 5):
            for t in many_rules(n)[::11]:
                found = traps_by_the_table(n, t)
                for names in itertools.permutations(range(n)):
                    renamed = [[renumbered_state(s, names) for s in states] for states in found]
                    self.assertEqual(traps(n, renumbered_rules(t, names)), expected_traps(renamed), (n, t, names))


class WhatHolds(unittest.TestCase):
    """Of every right n and t that is tried."""

    def test_there_is_at_least_one_trap(self):
        for n in range(1, 5):
            for t in many_rules(n):
                self.assertGreaterEqual(traps(n, t)[0], 1, (n, t))

    def test_two_numbers_of_each_trap(self):
        for n in range(1, 5):
            for t in many_rules(n):
                answer = traps(n, t)
                self.assertEqual(len(answer), 1 + 2 * answer[0], (n, t))
                for least, count in in_twos(answer):
                    self.assertGreaterEqual(least, 0, (n, t))
                    self.assertGreaterEqual(count, 1, (n, t))

    def test_no_state_is_in_two_traps(self):
        for n in range(1, 5):
            for t in many_rules(n):
                met = []
                for least, count in in_twos(traps(n, t)):
                    states = reach(n, least, t)[1:]
                    self.assertEqual((states[0], len(states)), (least, count), (n, t))
                    met += states
                self.assertEqual(len(met), len(set(met)), (n, t))

    def test_the_least_states_rise(self):
        for n in range(1, 5):
            for t in many_rules(n):
                leasts = [least for least, count in in_twos(traps(n, t))]
                for one, other in zip(leasts, leasts[1:]):
                    self.assertLess(one, other, (n, t))

    def test_a_trap_of_one_state_is_a_state_at_rest(self):
        for n in range(1, 5):
            for t in many_rules(n):
                alone = [least for least, count in in_twos(traps(n, t)) if count == 1]
                at_rest = [s for s in range(2 ** n) if moves(n, s, t) == [0]]
                self.assertEqual(alone, at_rest, (n, t))


class Edges(unittest.TestCase):
    def check(self, n, changing, found):
        """Asks for every numbering of the towers, so that the traps and their
        states come in other orders too."""
        t = rules_for(n, changing)
        for names in itertools.permutations(range(n)):
            renamed = [[renumbered_state(s, names) for s in states] for states in found]
            with self.subTest(n=n, t=t, names=names):
                self.assertEqual(traps(n, renumbered_rules(t, names)), expected_traps(renamed))

    def test_a_trap_of_one_state(self):
        for n in range(1, 5):
            towers = list(range(n))
            for s in range(2 ** n):
                t = rules_for(n, {x: towers for x in range(2 ** n) if x != s})
                with self.subTest(n=n, s=s):
                    self.assertEqual(traps(n, t), [1, s, 1])

    def test_a_trap_of_all_states_by_any_changes(self):
        for n in range(1, 5):
            with self.subTest(n=n):
                self.assertEqual(traps(n, TURN[n]), [1, 0, 2 ** n])

    def test_a_trap_of_all_states_by_one_ring_alone(self):
        for n in range(1, 5):
            row = all_states_in_a_row(n)
            for ring in (row + row[:1], row[::-1] + row[-1:]):
                with self.subTest(n=n, ring=ring):
                    self.assertEqual(traps(n, rules_along(n, ring)), [1, 0, 2 ** n])

    def test_every_state_a_trap_by_itself(self):
        for n in range(1, 5):
            answer = [2 ** n]
            for s in range(2 ** n):
                answer += [s, 1]
            with self.subTest(n=n):
                self.assertEqual(traps(n, STAY[n]), answer)

    def test_a_trap_of_any_number_of_states(self):
        # The last of the row go there and back, the others lead to them.
        for n in range(1, 5):
            for row in (all_states_in_a_row(n), all_states_in_a_row(n)[::-1]):
                for count in range(1, 2 ** n + 1):
                    changing = changes_along(row)
                    changing.update(there_and_back(row[-count:]))
                    with self.subTest(n=n, row=row, count=count):
                        self.assertEqual(traps(n, rules_for(n, changing)), [1, min(row[-count:]), count])

    def test_a_trap_of_any_number_of_states_and_others_at_rest(self):
        for n in range(1, 5):
            row = all_states_in_a_row(n)
            for count in range(2, 2 ** n + 1):
                self.check(n, there_and_back(row[:count]), [row[:count]] + [[s] for s in row[count:]])

    def test_several_traps_of_one_state_and_of_more(self):
        # 0 and 1 go there and back, 3 and 2 are at rest.
        self.check(2, {0: [0], 1: [0]}, [[0, 1], [2], [3]])
        # Four go round, 4 is at rest, and the rest leads to either.
        self.check(3, {0: [0], 1: [1], 3: [0], 2: [1], 5: [0, 2], 7: [1], 6: [1, 2]}, [[0, 1, 2, 3], [4]])
        # Twice four go round, two go there and back, 12 and 13 are at rest.
        changing = {0: [0], 1: [1], 3: [0], 2: [1], 4: [0], 5: [1], 7: [0], 6: [1], 8: [0], 9: [0]}
        changing.update({10: [1], 11: [0], 14: [0, 1], 15: [1]})
        self.check(4, changing, [[0, 1, 2, 3], [4, 5, 6, 7], [8, 9], [12], [13]])

    def test_traps_whose_states_lie_between_one_another(self):
        self.check(3, {0: [2], 4: [2], 1: [1], 3: [1]}, [[0, 4], [1, 3], [2], [5], [6], [7]])
        self.check(4, {0: [3], 8: [3], 1: [2], 5: [2], 2: [0], 3: [0]},
                   [[0, 8], [1, 5], [2, 3], [4], [6], [7], [9], [10], [11], [12], [13], [14], [15]])

    def test_the_least_state_is_not_the_one_come_to_first(self):
        # 0 and 1 lead to 3, then 3 and 2 there and back.
        self.assertEqual(traps(2, rules_for(2, {0: [0], 1: [1], 3: [0], 2: [0]})), [1, 2, 2])
        # 0, 1 and 5 lead to 7, whence round: 7, 6, 2, 3.
        self.assertEqual(traps(3, rules_for(3, {0: [0], 1: [2], 5: [1], 4: [0], 7: [0], 6: [2], 2: [0], 3: [2]})),
                         [1, 2, 4])
        # 0, 8, 12 and 14 lead to 15, whence round: 15, 13, 5, 7.
        changing = {0: [3], 8: [2], 12: [1], 14: [0], 15: [1], 13: [3], 5: [1], 7: [3]}
        answer = [9, 1, 1, 2, 1, 3, 1, 4, 1, 5, 4, 6, 1, 9, 1, 10, 1, 11, 1]
        self.assertEqual(traps(4, rules_for(4, changing)), answer)

    def test_the_way_round_does_not_begin_at_the_least_state(self):
        for n in range(2, 5):
            row = all_states_in_a_row(n)
            for k in range(2 ** n):
                ring = row[k:] + row[:k]
                with self.subTest(n=n, ring=ring):
                    self.assertEqual(traps(n, rules_along(n, ring)), [1, ring[-1], 1])
                    self.assertEqual(traps(n, rules_along(n, ring + ring[:1])), [1, 0, 2 ** n])

    def test_states_in_no_trap(self):
        # All lead to the last of the row.
        for n in range(1, 5):
            row = all_states_in_a_row(n)
            with self.subTest(n=n):
                self.assertEqual(traps(n, rules_along(n, row)), [1, row[-1], 1])
                self.assertEqual(traps(n, rules_along(n, row[::-1])), [1, 0, 1])
        # 0 leads to 1 and to 2, each of which is at rest, and so does 3.
        self.check(2, {0: [0, 1], 3: [0, 1]}, [[1], [2]])

    def test_states_that_lead_round_and_out_are_no_trap(self):
        # 0, 1, 3, 2 go round; one change leads out to 4.
        ring = {0: [0], 1: [1], 3: [0], 2: [1], 4: [], 5: [0], 7: [1], 6: [1]}
        for way_out in range(4):
            changing = dict(ring)
            changing[way_out] = ring[way_out] + [2]
            self.check(3, changing, [[4]])
        # The same out of 0 and 1 that go there and back, to 2 and 3 that do so too.
        for way_out in (0, 1):
            changing = {0: [0], 1: [0], 2: [0], 3: [0]}
            changing[way_out] = [0, 1]
            self.check(2, changing, [[2, 3]])

    def test_of_rounds_one_behind_another_the_last_alone_is_a_trap(self):
        # 0 and 1, then 2 and 3, then 6 and 7, then 4 and 5: each there and back,
        # with one change on to those behind them.
        changing = {0: [0], 1: [0, 1], 3: [0], 2: [0, 2], 6: [0], 7: [0, 1], 5: [0], 4: [0]}
        self.check(3, changing, [[4, 5]])

    def test_a_state_at_rest_that_is_never_come_to(self):
        self.check(2, {0: [0, 1], 1: [0], 2: [1]}, [[0, 1, 2], [3]])
        t = rules_along(3, [1, 3, 2, 6, 7, 5, 1])
        self.assertEqual(traps(3, t), [3, 0, 1, 1, 6, 4, 1])

    def test_two_that_would_change_at_once_and_together_come_back(self):
        # Each copies the other: all at once 1 and 2 lead to one another, alone
        # they lead to 0 and to 3.
        self.assertEqual(traps(2, [12, 10]), [2, 0, 1, 3, 1])
        # Each turns from the other: all at once 0 and 3 lead to one another.
        self.assertEqual(traps(2, [3, 5]), [2, 1, 1, 2, 1])
        # The same beside a third that stays, and beside one that always changes.
        self.assertEqual(traps(3, [204, 170, 240]), [4, 0, 1, 3, 1, 4, 1, 7, 1])
        self.assertEqual(traps(3, [204, 170, 15]), [2, 0, 2, 3, 2])
        self.assertEqual(traps(3, [51, 85, 15]), [2, 1, 2, 2, 2])

    def test_greatest_rules_and_rules_of_nought(self):
        for n in range(1, 5):
            with self.subTest(n=n):
                self.assertEqual(traps(n, [0] * n), [1, 0, 1])
                self.assertEqual(traps(n, [GREATEST_RULE[n]] * n), [1, 2 ** n - 1, 1])


class Refusals(unittest.TestCase):
    def refused(self, n, t):
        with self.subTest(n=n, t=t):
            self.assertEqual(traps(n, t), [-22])

    def test_no_right_number_of_towers(self):
        for n in (0, 5, 6, 10, 11, GREATEST_NUMBER):
            for length in range(11):
                self.refused(n, [0] * length)
                self.refused(n, [1] * length)

    def test_no_rules(self):
        for n in range(1, 5):
            self.refused(n, [])

    def test_one_rule_too_few_or_too_many(self):
        for n in range(1, 5):
            for t in (STAY[n], TURN[n]):
                self.refused(n, t[:-1])
                self.refused(n, t + [0])
                self.refused(n, t + [GREATEST_RULE[n]])

    def test_any_other_number_of_rules(self):
        for n in range(1, 5):
            for length in range(11):
                if length != n:
                    self.refused(n, [0] * length)
                    self.refused(n, [GREATEST_RULE[n]] * length)

    def test_a_rule_not_below_the_bound(self):
        for n in range(1, 4):
            for rule in (GREATEST_RULE[n] + 1, GREATEST_RULE[n] + 2, 65535):
                for j in range(n):
                    for t in (list(STAY[n]), list(TURN[n]), [0] * n):
                        t[j] = rule
                        self.refused(n, t)

    def test_several_faults_are_one_refusal(self):
        self.refused(0, [65535] * 10)
        self.refused(5, [65535] * 4)
        self.refused(GREATEST_NUMBER, [])
        self.refused(GREATEST_NUMBER, [65535] * 10)
        self.refused(1, [4, 4])
        self.refused(2, [16])
        self.refused(2, [16, 16])
        self.refused(3, [256] * 4)
        self.refused(3, [256] * 10)


CALLS = [
    (1, [1]),
    (2, [15, 0]),
    (2, [12, 10]),
    (3, [240, 170, 204]),
    (3, [170, 51, 240]),
    (4, [21845, 13107, 3855, 255]),
    (4, [43690, 52428, 61680, 65280]),
    (0, []),
    (2, [0, 16]),
    (3, [1, 2]),
    (4, [9, 8, 7, 6, 5, 4, 3, 2, 1, 0]),
]


class EachCallByItself(unittest.TestCase):
    def test_arguments_are_after_the_call_as_before(self):
        for n, t in CALLS:
            arguments = [n, list(t)]
            traps(n, t)
            self.assertEqual([n, t], arguments)

    def test_rules_are_not_changed_for_a_while_either(self):
        for n, t in CALLS:
            self.assertEqual(traps(n, GuardedList(t)), traps(n, t))

    def test_same_arguments_same_answer(self):
        for n, t in CALLS:
            self.assertEqual(traps(n, t), traps(n, t))
        first = [traps(n, t) for n, t in CALLS]
        second = [traps(n, t) for n, t in reversed(CALLS)]
        self.assertEqual(first, second[::-1])

    def test_an_answer_that_was_changed_does_not_come_back(self):
        for n, t in CALLS:
            answer = traps(n, t)
            kept = list(answer)
            answer.append(77)
            self.assertEqual(traps(n, t), kept)

    def test_rules_changed_by_the_caller_are_read_anew(self):
        t = [15, 0]
        self.assertEqual(traps(2, t), [1, 1, 1])
        t[1] = 15
        self.assertEqual(traps(2, t), [1, 3, 1])


class Interface(unittest.TestCase):
    def test_arguments(self):
        self.assertEqual(list(inspect.signature(traps).parameters), ["n", "t"])
        self.assertEqual(traps(n=2, t=[15, 0]), [1, 1, 1])

    def test_the_answer_is_a_list_of_whole_numbers(self):
        for n, t in CALLS:
            answer = traps(n, t)
            self.assertIs(type(answer), list)
            for number in answer:
                self.assertIs(type(number), int)


if __name__ == "__main__":
    unittest.main()
