import unittest

from building import Untouchable, all_lists, beginnings_of, other_of, stops_of, told, with_few_calls_nested
from otherend.lines import ends, other


class Ordinary(unittest.TestCase):
    def test_from_where_it_begins(self):
        self.assertEqual(other(0, [2, 0, 3, 1, 0, 2]), [2, 2])

    def test_from_where_it_stops(self):
        self.assertEqual(other(2, [2, 0, 3, 1, 0, 2]), [0, 2])

    def test_several_lines(self):
        numbers = told(9, [5, 0, 3], [6, 1, 2, 4, 8])
        self.assertEqual(other(5, numbers), [3, 2])
        self.assertEqual(other(3, numbers), [5, 2])
        self.assertEqual(other(6, numbers), [8, 4])
        self.assertEqual(other(8, numbers), [6, 4])

    def test_a_said_step_that_is_not_answered_ends_a_line(self):
        # 0 -> 1 -> 2, where 2 says 3 is next and 3 says nothing of it.
        numbers = [2, 0, 3, 1, 4, 2, 0, 0]
        self.assertEqual(other(0, numbers), [2, 2])
        self.assertEqual(other(2, numbers), [0, 2])

    def test_a_said_step_from_before_that_is_not_answered_begins_a_line(self):
        # 3 is said to be before 0, and says nothing of it.
        numbers = [2, 4, 3, 1, 0, 2, 0, 0]
        self.assertEqual(other(0, numbers), [2, 2])
        self.assertEqual(other(2, numbers), [0, 2])

    def test_the_other_ends_other_end_is_the_first(self):
        numbers = told(12, [11, 4, 7, 0], [3, 2], [10, 9, 8, 6, 5], [1, 1])
        self.assertEqual(ends(numbers), [6, 0, 2, 3, 5, 10, 11])
        for end in ends(numbers)[1:]:
            there, steps = other(end, numbers)
            self.assertNotEqual(there, end)
            self.assertEqual(other(there, numbers), [end, steps])


class Corners(unittest.TestCase):
    def test_a_line_of_two(self):
        self.assertEqual(other(0, [2, 0, 0, 1]), [1, 1])
        self.assertEqual(other(1, [2, 0, 0, 1]), [0, 1])
        self.assertEqual(other(0, [0, 2, 1, 0]), [1, 1])
        self.assertEqual(other(1, [0, 2, 1, 0]), [0, 1])

    def test_a_line_with_a_round_beside_it(self):
        numbers = told(5, [4, 0], [1, 2, 3, 1])
        self.assertEqual(other(4, numbers), [0, 1])
        self.assertEqual(other(0, numbers), [4, 1])

    def test_a_line_whose_end_points_at_a_round(self):
        # 0 -> 1, and 1 says 2 is next, but 2 is a round of one.
        self.assertEqual(other(0, [2, 0, 3, 1, 3, 3]), [1, 1])
        self.assertEqual(other(1, [2, 0, 3, 1, 3, 3]), [0, 1])


class Largest(unittest.TestCase):
    def test_one_line_over_all_points(self):
        numbers = told(400, list(range(400)))
        self.assertEqual(len(numbers), 800)
        self.assertEqual(other(0, numbers), [399, 399])
        self.assertEqual(other(399, numbers), [0, 399])

    def test_one_line_over_all_points_mixed(self):
        path = [(7 + 137 * k) % 400 for k in range(400)]
        numbers = told(400, path)
        self.assertEqual(other(path[0], numbers), [path[-1], 399])
        self.assertEqual(other(path[-1], numbers), [path[0], 399])

    def test_one_round_over_all_points(self):
        numbers = told(400, list(range(400)) + [0])
        for v in (0, 200, 399):
            self.assertEqual(other(v, numbers), [-33])

    def test_by_loops(self):
        numbers = told(400, list(range(400)))
        answers = with_few_calls_nested(lambda: [other(0, numbers), other(399, numbers), ends(numbers)])
        self.assertEqual(answers, [[399, 399], [0, 399], [2, 0, 399]])


class EverySmallList(unittest.TestCase):
    def test_as_the_words_say(self):
        for count in range(4):
            for numbers in all_lists(count):
                for v in range(count):
                    self.assertEqual(other(v, numbers), other_of(v, numbers), (v, numbers))
                self.assertEqual(other(count, numbers), [-2])

    def test_what_holds(self):
        for numbers in all_lists(3):
            for end in ends(numbers)[1:]:
                there, steps = other(end, numbers)
                self.assertNotEqual(there, end)
                self.assertEqual(other(there, numbers), [end, steps])
                self.assertEqual(end in beginnings_of(numbers), there in stops_of(numbers))


class HandedIn(unittest.TestCase):
    def test_the_list_is_not_changed(self):
        line = [2, 0, 3, 1, 0, 2]
        for v, numbers, answer in ((0, line, [2, 2]), (2, line, [0, 2]), (1, line, [-33]), (3, line, [-2]),
                                   (0, [], [-2]), (0, [0], [-22]), (0, [0, 9], [-22])):
            handed = Untouchable(numbers)
            self.assertEqual(other(v, handed), answer)
            self.assertEqual(list(handed), numbers)

    def test_nothing_is_kept(self):
        numbers = told(4, [3, 1, 2])
        first = other(3, numbers)
        first.append(7)
        self.assertEqual(other(0, [0]), [-22])
        self.assertEqual(other(3, numbers), [2, 2])
        numbers[2 * 1] = 0
        self.assertEqual(other(3, numbers), [1, 1])


if __name__ == "__main__":
    unittest.main()
