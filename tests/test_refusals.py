"""The refusals, and their order, of every call that is handed a point; those of ends and rounds stand with these."""

import unittest

from building import LARGEST, told
from otherend.lines import kind, line, other, round_of, step

OF_A_POINT = (other, line, kind, round_of, step)
OF_AN_END = (other, line)
OF_A_ROUND = (round_of,)

ANSWERED_AT_AN_END = (other, line, kind, step)
ANSWERED_ON_A_ROUND = (kind, round_of, step)


class Refusing(unittest.TestCase):
    def refused(self, calls, v, numbers, refusal):
        for call in calls:
            self.assertEqual(call(v, numbers), [refusal], (call.__name__, v, numbers))

    def not_refused(self, calls, v, numbers):
        for call in calls:
            self.assertGreaterEqual(call(v, numbers)[0], 0, (call.__name__, v, numbers))


class ListRefused(Refusing):
    def test_odd_length(self):
        for numbers in ([0], [0, 0, 0], [2, 0, 0, 1, 0], [0] * 799):
            self.refused(OF_A_POINT, 0, numbers, -22)

    def test_a_number_beyond_the_points(self):
        # The line 0 -> 1 is whole; what is beyond is said by point 2.
        for beyond in (4, 5, LARGEST):
            self.refused(OF_A_POINT, 0, [2, 0, 0, 1, beyond, 0], -22)
            self.refused(OF_A_POINT, 0, [2, 0, 0, 1, 0, beyond], -22)

    def test_a_number_beyond_the_points_beside_a_round(self):
        for beyond in (4, 5, LARGEST):
            self.refused(OF_A_POINT, 0, [2, 2, 1, 1, beyond, 0], -22)
            self.refused(OF_A_POINT, 0, [2, 2, 1, 1, 0, beyond], -22)

    def test_a_number_beyond_the_points_said_by_v(self):
        for beyond in (3, LARGEST):
            self.refused(OF_A_POINT, 0, [beyond, 0, 0, 0], -22)
            self.refused(OF_A_POINT, 0, [0, beyond, 0, 0], -22)

    def test_the_largest_number_within_the_points(self):
        self.not_refused(ANSWERED_AT_AN_END, 0, [2, 0, 0, 1, 3, 0])
        self.not_refused(ANSWERED_AT_AN_END, 0, [2, 0, 0, 1, 0, 3])
        self.not_refused(ANSWERED_ON_A_ROUND, 0, [2, 2, 1, 1, 3, 0])
        self.not_refused(ANSWERED_ON_A_ROUND, 0, [2, 2, 1, 1, 0, 3])

    def test_a_number_beyond_the_points_of_the_largest_list(self):
        for path, answered in (([0, 1], ANSWERED_AT_AN_END), ([0, 1, 0], ANSWERED_ON_A_ROUND)):
            for place in (798, 799):
                numbers = told(400, path)
                numbers[place] = 400
                self.not_refused(answered, 0, numbers)
                numbers[place] = 401
                self.refused(OF_A_POINT, 0, numbers, -22)

    def test_more_than_400_points(self):
        for count in (401, 500):
            self.refused(OF_A_POINT, 0, told(count, [0, 1]), -22)
            self.refused(OF_A_POINT, 0, told(count, [0, 1, 0]), -22)


class PointRefused(Refusing):
    def test_just_beyond(self):
        for count in (2, 400):
            last = count - 1
            self.not_refused(ANSWERED_AT_AN_END, last, told(count, [0, last]))
            self.refused(OF_A_POINT, count, told(count, [0, last]), -2)
            self.not_refused(ANSWERED_ON_A_ROUND, last, told(count, [0, last, 0]))
            self.refused(OF_A_POINT, count, told(count, [0, last, 0]), -2)

    def test_large(self):
        for v in (3, 4, 5, 400, LARGEST):
            self.refused(OF_A_POINT, v, [2, 0, 0, 1], -2)
            self.refused(OF_A_POINT, v, [2, 2, 1, 1], -2)

    def test_no_points(self):
        for v in (0, 1, 399, LARGEST):
            self.refused(OF_A_POINT, v, [], -2)


class EndRefused(Refusing):
    def test_alone(self):
        self.refused(OF_AN_END, 0, [0, 0], -33)
        self.refused(OF_AN_END, 1, told(3, [0, 2]), -33)

    def test_a_point_that_says_itself_one_way(self):
        self.refused(OF_AN_END, 0, [1, 0], -33)
        self.refused(OF_AN_END, 0, [0, 1], -33)

    def test_two_that_do_not_say_the_same(self):
        for numbers in ([2, 0, 0, 0], [0, 0, 0, 1], [2, 0, 1, 0], [0, 2, 0, 1]):
            self.refused(OF_AN_END, 0, numbers, -33)
            self.refused(OF_AN_END, 1, numbers, -33)

    def test_within_a_line(self):
        for v in (1, 2):
            self.refused(OF_AN_END, v, told(4, [0, 1, 2, 3]), -33)

    def test_on_a_round(self):
        self.refused(OF_AN_END, 0, [1, 1], -33)
        for v in (0, 1):
            self.refused(OF_AN_END, v, [2, 2, 1, 1], -33)
        for v in (1, 2, 3):
            self.refused(OF_AN_END, v, told(5, [4, 0], [1, 2, 3, 1]), -33)

    def test_on_a_round_over_all_points(self):
        numbers = told(400, list(range(400)) + [0])
        for v in (0, 200, 399):
            self.refused(OF_AN_END, v, numbers, -33)


class RoundRefused(Refusing):
    def test_alone(self):
        self.refused(OF_A_ROUND, 0, [0, 0], -33)
        self.refused(OF_A_ROUND, 1, told(3, [0, 2, 0]), -33)

    def test_a_point_that_says_itself_one_way(self):
        self.refused(OF_A_ROUND, 0, [1, 0], -33)
        self.refused(OF_A_ROUND, 0, [0, 1], -33)

    def test_two_that_do_not_say_the_same(self):
        for numbers in ([2, 0, 0, 0], [0, 0, 0, 1], [2, 0, 1, 0], [0, 2, 0, 1]):
            self.refused(OF_A_ROUND, 0, numbers, -33)
            self.refused(OF_A_ROUND, 1, numbers, -33)

    def test_on_a_line(self):
        for v in range(4):
            self.refused(OF_A_ROUND, v, told(4, [0, 1, 2, 3]), -33)
        for v in (0, 1):
            self.refused(OF_A_ROUND, v, [2, 0, 0, 1], -33)
        for v in (0, 4):
            self.refused(OF_A_ROUND, v, told(5, [4, 0], [1, 2, 3, 1]), -33)

    def test_on_a_line_over_all_points(self):
        numbers = told(400, list(range(400)))
        for v in (0, 200, 399):
            self.refused(OF_A_ROUND, v, numbers, -33)


class NeverRefusedWhereThePointIs(Refusing):
    def test_kind_and_step_answer_of_every_point(self):
        # 0 -> 1 -> 2, 3 alone, 4 a round of one, 5 and 6 that don't say the same.
        numbers = [2, 0, 3, 1, 0, 2, 0, 0, 5, 5, 7, 0, 6, 0]
        for v in range(7):
            self.not_refused((kind, step), v, numbers)


class OrderOfRefusals(Refusing):
    def test_the_list_ahead_of_the_point(self):
        for v in (1, 2, LARGEST):
            self.refused(OF_A_POINT, v, [0], -22)
            self.refused(OF_A_POINT, v, [2, 0], -22)
            self.refused(OF_A_POINT, v, [0, LARGEST], -22)

    def test_the_list_ahead_of_the_end(self):
        self.refused(OF_AN_END, 0, [0, 0, 0], -22)
        self.refused(OF_AN_END, 0, [0, 0, 3, 0], -22)

    def test_the_point_ahead_of_the_end(self):
        for v in (1, LARGEST):
            self.refused(OF_AN_END, v, [0, 0], -2)
            self.refused(OF_AN_END, v, [1, 1], -2)

    def test_the_list_ahead_of_the_round(self):
        self.refused(OF_A_ROUND, 0, [0, 0, 0], -22)
        self.refused(OF_A_ROUND, 0, [0, 0, 3, 0], -22)

    def test_the_point_ahead_of_the_round(self):
        for v in (1, LARGEST):
            self.refused(OF_A_ROUND, v, [0, 0], -2)
            self.refused(OF_A_ROUND, v, [1, 1], -2)


if __name__ == "__main__":
    unittest.main()
