import unittest

from building import Untouchable, all_lists, line_of, told, with_few_calls_nested
from otherend.lines import ends, line, other


class Ordinary(unittest.TestCase):
    def test_from_where_it_begins(self):
        self.assertEqual(line(0, [2, 0, 3, 1, 0, 2]), [3, 0, 1, 2])

    def test_from_where_it_stops(self):
        self.assertEqual(line(2, [2, 0, 3, 1, 0, 2]), [3, 2, 1, 0])

    def test_several_lines(self):
        numbers = told(9, [5, 0, 3], [6, 1, 2, 4, 8])
        self.assertEqual(line(5, numbers), [3, 5, 0, 3])
        self.assertEqual(line(3, numbers), [3, 3, 0, 5])
        self.assertEqual(line(6, numbers), [5, 6, 1, 2, 4, 8])
        self.assertEqual(line(8, numbers), [5, 8, 4, 2, 1, 6])

    def test_a_said_step_that_is_not_answered_ends_a_line(self):
        # 0 -> 1 -> 2, where 2 says 3 is next and 3 says nothing of it.
        numbers = [2, 0, 3, 1, 4, 2, 0, 0]
        self.assertEqual(line(0, numbers), [3, 0, 1, 2])
        self.assertEqual(line(2, numbers), [3, 2, 1, 0])

    def test_a_said_step_from_before_that_is_not_answered_begins_a_line(self):
        # 3 is said to be before 0, and says nothing of it.
        numbers = [2, 4, 3, 1, 0, 2, 0, 0]
        self.assertEqual(line(0, numbers), [3, 0, 1, 2])
        self.assertEqual(line(2, numbers), [3, 2, 1, 0])

    def test_a_line_whose_other_end_says_the_first_is_next(self):
        # 2 says 0 is next, but 0 says none is before it: no round.
        numbers = [2, 0, 3, 1, 1, 2]
        self.assertEqual(line(0, numbers), [3, 0, 1, 2])
        self.assertEqual(line(2, numbers), [3, 2, 1, 0])


class Corners(unittest.TestCase):
    def test_a_line_of_two(self):
        self.assertEqual(line(0, [2, 0, 0, 1]), [2, 0, 1])
        self.assertEqual(line(1, [2, 0, 0, 1]), [2, 1, 0])
        self.assertEqual(line(0, [0, 2, 1, 0]), [2, 0, 1])
        self.assertEqual(line(1, [0, 2, 1, 0]), [2, 1, 0])

    def test_a_line_with_a_round_beside_it(self):
        numbers = told(6, [4, 0, 5], [1, 2, 3, 1])
        self.assertEqual(line(4, numbers), [3, 4, 0, 5])
        self.assertEqual(line(5, numbers), [3, 5, 0, 4])
        self.assertEqual(line(2, told(3, [0, 2], [1, 1])), [2, 2, 0])

    def test_a_line_whose_end_points_at_a_round(self):
        # 0 -> 1, and 1 says 2 is next, but 2 is a round of one.
        self.assertEqual(line(0, [2, 0, 3, 1, 3, 3]), [2, 0, 1])
        self.assertEqual(line(1, [2, 0, 3, 1, 3, 3]), [2, 1, 0])

    def test_an_end_that_says_itself(self):
        # 0 says itself is before it, 1 says itself is next; neither is a step, and 0 -> 1 is one.
        self.assertEqual(line(0, [2, 1, 2, 1]), [2, 0, 1])
        self.assertEqual(line(1, [2, 1, 2, 1]), [2, 1, 0])


class Largest(unittest.TestCase):
    def test_one_line_over_all_points(self):
        numbers = told(400, list(range(400)))
        self.assertEqual(len(numbers), 800)
        self.assertEqual(line(0, numbers), [400] + list(range(400)))
        self.assertEqual(line(399, numbers), [400] + list(range(399, -1, -1)))

    def test_one_line_over_all_points_mixed(self):
        path = [(7 + 137 * k) % 400 for k in range(400)]
        numbers = told(400, path)
        self.assertEqual(line(path[0], numbers), [400] + path)
        self.assertEqual(line(path[-1], numbers), [400] + path[::-1])

    def test_by_loops(self):
        numbers = told(400, list(range(400)))
        answers = with_few_calls_nested(lambda: [line(0, numbers), line(399, numbers)])
        self.assertEqual(answers, [[400] + list(range(400)), [400] + list(range(399, -1, -1))])


class EverySmallList(unittest.TestCase):
    def test_as_the_words_say(self):
        for count in range(4):
            for numbers in all_lists(count):
                for v in range(count):
                    self.assertEqual(line(v, numbers), line_of(v, numbers), (v, numbers))
                self.assertEqual(line(count, numbers), [-2])

    def test_what_holds(self):
        for numbers in all_lists(3):
            for end in ends(numbers)[1:]:
                points = line(end, numbers)[1:]
                self.assertEqual(line(end, numbers)[0], len(points))
                self.assertEqual(len(points), len(set(points)))
                self.assertEqual(points[0], end)
                self.assertEqual(other(end, numbers), [points[-1], len(points) - 1])
                self.assertEqual(line(points[-1], numbers)[1:], points[::-1])


class HandedIn(unittest.TestCase):
    def test_the_list_is_not_changed(self):
        numbers = [2, 0, 3, 1, 0, 2]
        for v, given, answer in ((0, numbers, [3, 0, 1, 2]), (2, numbers, [3, 2, 1, 0]), (1, numbers, [-33]),
                                 (3, numbers, [-2]), (0, [], [-2]), (0, [0], [-22]), (0, [0, 9], [-22])):
            handed = Untouchable(given)
            self.assertEqual(line(v, handed), answer)
            self.assertEqual(list(handed), given)

    def test_nothing_is_kept(self):
        numbers = told(4, [3, 1, 2])
        first = line(3, numbers)
        first.append(7)
        self.assertEqual(line(0, [0]), [-22])
        self.assertEqual(line(3, numbers), [3, 3, 1, 2])
        numbers[2 * 1] = 0
        self.assertEqual(line(3, numbers), [2, 3, 1])


if __name__ == "__main__":
    unittest.main()
