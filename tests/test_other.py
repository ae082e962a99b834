import inspect
import sys
import unittest

from building import LARGEST, Untouchable, all_lists, beginnings_of, other_of, stops_of, told
from otherend.lines import ends, other


class Ordinary(unittest.TestCase):
    def test_from_where_it_begins(self):
        self.assertEqual(other(0, [2, 0, 3, 1, 0, 2]), [2, 2])

    def test_from_where_it_stops(self):
        self.assertEqual(other(2, [2, 0, 3, 1, 0, 2]), [0, 2])

    def test_several_lines(self):
        numbers = told(9, [5, 0, 3], [6, 1, 2, 4, 8])
        self.assertEqual(other(5, numbers), [3, 2])
        self.assertEqual(other(3, numbers), [5, 2])
        self.assertEqual(other(6, numbers), [8, 4])
        self.assertEqual(other(8, numbers), [6, 4])

    def test_a_said_step_that_is_not_answered_ends_a_line(self):
        # 0 -> 1 -> 2, where 2 says 3 is next and 3 says nothing of it.
        numbers = [2, 0, 3, 1, 4, 2, 0, 0]
        self.assertEqual(other(0, numbers), [2, 2])
        self.assertEqual(other(2, numbers), [0, 2])

    def test_a_said_step_from_before_that_is_not_answered_begins_a_line(self):
        # 3 is said to be before 0, and says nothing of it.
        numbers = [2, 4, 3, 1, 0, 2, 0, 0]
        self.assertEqual(other(0, numbers), [2, 2])
        self.assertEqual(other(2, numbers), [0, 2])

    def test_the_other_ends_other_end_is_the_first(self):
        numbers = told(12, [11, 4, 7, 0], [3, 2], [10, 9, 8, 6, 5], [1, 1])
        self.assertEqual(ends(numbers), [6, 0, 2, 3, 5, 10, 11])
        for end in ends(numbers)[1:]:
            there, steps = other(end, numbers)
            self.assertNotEqual(there, end)
            self.assertEqual(other(there, numbers), [end, steps])


class Corners(unittest.TestCase):
    def test_a_line_of_two(self):
        self.assertEqual(other(0, [2, 0, 0, 1]), [1, 1])
        self.assertEqual(other(1, [2, 0, 0, 1]), [0, 1])
        self.assertEqual(other(0, [0, 2, 1, 0]), [1, 1])
        self.assertEqual(other(1, [0, 2, 1, 0]), [0, 1])

    def test_a_line_with_a_round_beside_it(self):
        numbers = told(5, [4, 0], [1, 2, 3, 1])
        self.assertEqual(other(4, numbers), [0, 1])
        self.assertEqual(other(0, numbers), [4, 1])

    def test_a_line_whose_end_points_at_a_round(self):
        # 0 -> 1, and 1 says 2 is next, but 2 is a round of one.
        self.assertEqual(other(0, [2, 0, 3, 1, 3, 3]), [1, 1])
        self.assertEqual(other(1, [2, 0, 3, 1, 3, 3]), [0, 1])


class ListRefused(unittest.TestCase):
    def test_odd_length(self):
        for numbers in ([0], [0, 0, 0], [2, 0, 0, 1, 0], [0] * 799):
            self.assertEqual(other(0, numbers), [-22])

    def test_a_number_beyond_the_points(self):
        # The line 0 -> 1 is whole; what is beyond is said by point 2.
        for beyond in (4, 5, LARGEST):
            self.assertEqual(other(0, [2, 0, 0, 1, beyond, 0]), [-22])
            self.assertEqual(other(0, [2, 0, 0, 1, 0, beyond]), [-22])

    def test_a_number_beyond_the_points_said_by_v(self):
        for beyond in (3, LARGEST):
            self.assertEqual(other(0, [beyond, 0, 0, 0]), [-22])
            self.assertEqual(other(0, [0, beyond, 0, 0]), [-22])

    def test_the_largest_number_within_the_points(self):
        self.assertEqual(other(0, [2, 0, 0, 1, 3, 0]), [1, 1])
        self.assertEqual(other(0, [2, 0, 0, 1, 0, 3]), [1, 1])

    def test_more_than_400_points(self):
        for count in (401, 500):
            self.assertEqual(other(0, told(count, [0, 1])), [-22])


class PointRefused(unittest.TestCase):
    def test_just_beyond(self):
        self.assertEqual(other(2, [2, 0, 0, 1]), [-2])
        self.assertEqual(other(400, told(400, [0, 399])), [-2])

    def test_large(self):
        for v in (3, 4, 5, 400, LARGEST):
            self.assertEqual(other(v, [2, 0, 0, 1]), [-2])

    def test_no_points(self):
        for v in (0, 1, 399, LARGEST):
            self.assertEqual(other(v, []), [-2])


class EndRefused(unittest.TestCase):
    def test_alone(self):
        self.assertEqual(other(0, [0, 0]), [-33])
        self.assertEqual(other(1, told(3, [0, 2])), [-33])

    def test_a_point_that_says_itself_one_way(self):
        self.assertEqual(other(0, [1, 0]), [-33])
        self.assertEqual(other(0, [0, 1]), [-33])

    def test_two_that_do_not_say_the_same(self):
        for numbers in ([2, 0, 0, 0], [0, 0, 0, 1], [2, 0, 1, 0], [0, 2, 0, 1]):
            self.assertEqual(other(0, numbers), [-33])
            self.assertEqual(other(1, numbers), [-33])

    def test_within_a_line(self):
        for v in (1, 2):
            self.assertEqual(other(v, told(4, [0, 1, 2, 3])), [-33])

    def test_on_a_round(self):
        self.assertEqual(other(0, [1, 1]), [-33])
        for v in (0, 1):
            self.assertEqual(other(v, [2, 2, 1, 1]), [-33])
        for v in (1, 2, 3):
            self.assertEqual(other(v, told(5, [4, 0], [1, 2, 3, 1])), [-33])


class OrderOfRefusals(unittest.TestCase):
    def test_the_list_ahead_of_the_point(self):
        for v in (1, 2, LARGEST):
            self.assertEqual(other(v, [0]), [-22])
            self.assertEqual(other(v, [2, 0]), [-22])
            self.assertEqual(other(v, [0, LARGEST]), [-22])

    def test_the_list_ahead_of_the_end(self):
        self.assertEqual(other(0, [0, 0, 0]), [-22])
        self.assertEqual(other(0, [0, 0, 3, 0]), [-22])

    def test_the_point_ahead_of_the_end(self):
        for v in (1, LARGEST):
            self.assertEqual(other(v, [0, 0]), [-2])
            self.assertEqual(other(v, [1, 1]), [-2])


class Largest(unittest.TestCase):
    def test_one_line_over_all_points(self):
        numbers = told(400, list(range(400)))
        self.assertEqual(len(numbers), 800)
        self.assertEqual(other(0, numbers), [399, 399])
        self.assertEqual(other(399, numbers), [0, 399])

    def test_one_line_over_all_points_mixed(self):
        path = [(7 + 137 * k) % 400 for k in range(400)]
        numbers = told(400, path)
        self.assertEqual(other(path[0], numbers), [path[-1], 399])
        self.assertEqual(other(path[-1], numbers), [path[0], 399])

    def test_one_round_over_all_points(self):
        numbers = told(400, list(range(400)) + [0])
        for v in (0, 200, 399):
            self.assertEqual(other(v, numbers), [-33])

    def test_by_loops(self):
        numbers = told(400, list(range(400)))
        before = sys.getrecursionlimit()
        sys.setrecursionlimit(len(inspect.stack()) + 50)
        try:
            answers = [other(0, numbers), other(399, numbers), ends(numbers)]
        finally:
            sys.setrecursionlimit(before)
        self.assertEqual(answers, [[399, 399], [0, 399], [2, 0, 399]])


class EverySmallList(unittest.TestCase):
    def test_as_the_words_say(self):
        for count in range(4):
            for numbers in all_lists(count):
                for v in range(count):
                    self.assertEqual(other(v, numbers), other_of(v, numbers), (v, numbers))
                self.assertEqual(other(count, numbers), [-2])

    def test_what_holds(self):
        for numbers in all_lists(3):
            for end in ends(numbers)[1:]:
                there, steps = other(end, numbers)
                self.assertNotEqual(there, end)
                self.assertEqual(other(there, numbers), [end, steps])
                self.assertEqual(end in beginnings_of(numbers), there in stops_of(numbers))


class HandedIn(unittest.TestCase):
    def test_the_list_is_not_changed(self):
        line = [2, 0, 3, 1, 0, 2]
        for v, numbers, answer in ((0, line, [2, 2]), (2, line, [0, 2]), (1, line, [-33]), (3, line, [-2]),
                                   (0, [], [-2]), (0, [0], [-22]), (0, [0, 9], [-22])):
            handed = Untouchable(numbers)
            self.assertEqual(other(v, handed), answer)
            self.assertEqual(list(handed), numbers)

    def test_nothing_is_kept(self):
        numbers = told(4, [3, 1, 2])
        first = other(3, numbers)
        first.append(7)
        self.assertEqual(other(0, [0]), [-22])
        self.assertEqual(other(3, numbers), [2, 2])
        numbers[2 * 1] = 0
        self.assertEqual(other(3, numbers), [1, 1])


if __name__ == "__main__":
    unittest.main()
