"""Tests of towerchanges.alone.moves."""

import inspect
import unittest

from towerchanges.alone import moves
from tests.helpers import (
    GREATEST_NUMBER, GREATEST_RULE, STAY, TURN, GuardedList, after_acting_alone, many_rules,
)


def expected_moves(n, s, t):
    towers = [j for j in range(n) if after_acting_alone(j, s, t) != s]
    return [len(towers)] + towers


class Ordinary(unittest.TestCase):
    def test_no_flag_would_change(self):
        for n in range(1, 5):
            for s in range(2 ** n):
                with self.subTest(n=n, s=s):
                    self.assertEqual(moves(n, s, STAY[n]), [0])

    def test_all_flags_would_change(self):
        for n in range(1, 5):
            for s in range(2 ** n):
                with self.subTest(n=n, s=s):
                    self.assertEqual(moves(n, s, TURN[n]), [n] + list(range(n)))

    def test_just_one_flag_would_change(self):
        for n in range(1, 5):
            for j in range(n):
                t = list(STAY[n])
                t[j] = TURN[n][j]
                for s in range(2 ** n):
                    with self.subTest(n=n, s=s, j=j):
                        self.assertEqual(moves(n, s, t), [1, j])

    def test_one_tower(self):
        self.assertEqual(moves(1, 0, [1]), [1, 0])
        self.assertEqual(moves(1, 1, [1]), [1, 0])
        self.assertEqual(moves(1, 0, [2]), [0])
        self.assertEqual(moves(1, 1, [2]), [0])

    def test_two_towers_that_copy_each_other(self):
        t = [12, 10]
        self.assertEqual(moves(2, 0, t), [0])
        self.assertEqual(moves(2, 1, t), [2, 0, 1])
        self.assertEqual(moves(2, 2, t), [2, 0, 1])
        self.assertEqual(moves(2, 3, t), [0])

    def test_two_towers_one_always_up_one_always_down(self):
        t = [15, 0]
        self.assertEqual(moves(2, 0, t), [1, 0])
        self.assertEqual(moves(2, 1, t), [0])
        self.assertEqual(moves(2, 2, t), [2, 0, 1])
        self.assertEqual(moves(2, 3, t), [1, 1])

    def test_three_towers_that_copy_in_a_ring(self):
        t = [240, 170, 204]
        self.assertEqual(moves(3, 0, t), [0])
        self.assertEqual(moves(3, 1, t), [2, 0, 1])
        self.assertEqual(moves(3, 2, t), [2, 1, 2])
        self.assertEqual(moves(3, 4, t), [2, 0, 2])
        self.assertEqual(moves(3, 7, t), [0])

    def test_four_towers_some_would_change_rising(self):
        self.assertEqual(moves(4, 5, [65535, 65535, 65535, 65535]), [2, 1, 3])
        self.assertEqual(moves(4, 10, [0, 0, 0, 0]), [2, 1, 3])
        self.assertEqual(moves(4, 14, [16384, 0, 0, 0]), [4, 0, 1, 2, 3])
        self.assertEqual(moves(4, 14, [32768, 0, 0, 0]), [3, 1, 2, 3])


class AgainstTheDefinition(unittest.TestCase):
    def test_many_rules_and_every_state(self):
        for n in range(1, 5):
            for t in many_rules(n):
                for s in range(2 ** n):
                    self.assertEqual(moves(n, s, t), expected_moves(n, s, t), (n, s, t))


class Edges(unittest.TestCase):
    def test_rules_of_nought_in_the_least_and_the_greatest_state(self):
        for n in range(1, 5):
            with self.subTest(n=n):
                self.assertEqual(moves(n, 0, [0] * n), [0])
                self.assertEqual(moves(n, 2 ** n - 1, [0] * n), [n] + list(range(n)))

    def test_greatest_rules_in_the_least_and_the_greatest_state(self):
        for n in range(1, 5):
            t = [GREATEST_RULE[n]] * n
            with self.subTest(n=n):
                self.assertEqual(moves(n, 0, t), [n] + list(range(n)))
                self.assertEqual(moves(n, 2 ** n - 1, t), [0])

    def test_a_rule_up_behind_the_greatest_state_alone(self):
        for n in range(1, 5):
            greatest = 2 ** n - 1
            t = [2 ** greatest] * n
            with self.subTest(n=n):
                self.assertEqual(moves(n, greatest, t), [0])
                self.assertEqual(moves(n, 0, t), [0])


class Refusals(unittest.TestCase):
    def refused(self, n, s, t):
        with self.subTest(n=n, s=s, t=t):
            self.assertEqual(moves(n, s, t), [-22])

    def test_no_right_number_of_towers(self):
        for n in (0, 5, 6, 10, 11, GREATEST_NUMBER):
            for length in range(11):
                self.refused(n, 0, [0] * length)
                self.refused(n, 1, [1] * length)

    def test_not_just_one_rule_for_each_tower(self):
        for n in range(1, 5):
            for length in range(11):
                if length != n:
                    self.refused(n, 0, [0] * length)
                    self.refused(n, 2 ** n - 1, [GREATEST_RULE[n]] * length)

    def test_a_rule_too_great(self):
        for n in range(1, 4):
            for rule in (GREATEST_RULE[n] + 1, GREATEST_RULE[n] + 2, 65535):
                for j in range(n):
                    t = [0] * n
                    t[j] = rule
                    self.refused(n, 0, t)
                    self.refused(n, 2 ** n - 1, t)

    def test_no_state(self):
        for n in range(1, 5):
            for s in (2 ** n, 2 ** n + 1, 2 ** (n + 1), GREATEST_NUMBER):
                self.refused(n, s, [0] * n)
                self.refused(n, s, STAY[n])
                self.refused(n, s, [GREATEST_RULE[n]] * n)

    def test_several_faults_are_one_refusal(self):
        self.refused(0, GREATEST_NUMBER, [65535] * 10)
        self.refused(GREATEST_NUMBER, GREATEST_NUMBER, [])
        self.refused(1, 2, [4])
        self.refused(2, 4, [16])
        self.refused(3, 8, [256] * 4)


CALLS = [
    (1, 0, [1]),
    (2, 2, [15, 0]),
    (3, 4, [240, 170, 204]),
    (4, 14, [16384, 0, 0, 0]),
    (4, 15, [43690, 52428, 61680, 65280]),
    (0, 0, []),
    (2, 0, [0, 16]),
    (3, 8, [1, 2, 3]),
    (4, 0, [9, 8, 7, 6, 5, 4, 3, 2, 1, 0]),
]


class EachCallByItself(unittest.TestCase):
    def test_rules_are_after_the_call_as_before(self):
        for n, s, t in CALLS:
            before = list(t)
            moves(n, s, t)
            self.assertEqual(t, before)

    def test_rules_are_not_changed_for_a_while_either(self):
        for n, s, t in CALLS:
            self.assertEqual(moves(n, s, GuardedList(t)), moves(n, s, t))

    def test_same_arguments_same_answer(self):
        first = [moves(n, s, t) for n, s, t in CALLS]
        second = [moves(n, s, t) for n, s, t in reversed(CALLS)]
        self.assertEqual(first, second[::-1])

    def test_an_answer_that_was_changed_does_not_come_back(self):
        for n, s, t in CALLS:
            answer = moves(n, s, t)
            kept = list(answer)
            answer.append(77)
            self.assertEqual(moves(n, s, t), kept)

    def test_rules_changed_by_the_caller_are_read_anew(self):
        t = [15, 0]
        self.assertEqual(moves(2, 0, t), [1, 0])
        t[1] = 15
        self.assertEqual(moves(2, 0, t), [2, 0, 1])


class Interface(unittest.TestCase):
    def test_arguments(self):
        self.assertEqual(list(inspect.signature(moves).parameters), ["n", "s", "t"])
        self.assertEqual(moves(n=2, s=2, t=[15, 0]), [2, 0, 1])

    def test_the_answer_is_a_list_of_whole_numbers(self):
        for n, s, t in CALLS:
            answer = moves(n, s, t)
            self.assertIs(type(answer), list)
            for number in answer:
                self.assertIs(type(number), int)


if __name__ == "__main__":
    unittest.main()
