import unittest

from building import LARGEST, Untouchable, all_lists, beginnings_of, ends_of, stops_of, told
from otherend.lines import ends


class Ordinary(unittest.TestCase):
    def test_one_line(self):
        self.assertEqual(ends([2, 0, 3, 1, 0, 2]), [2, 0, 2])

    def test_several_lines_rising(self):
        self.assertEqual(ends(told(7, [5, 0, 3], [6, 1, 2, 4])), [4, 3, 4, 5, 6])

    def test_points_alone_are_no_ends(self):
        self.assertEqual(ends(told(5, [3, 1])), [2, 1, 3])

    def test_rounds_beside_lines(self):
        self.assertEqual(ends(told(8, [7, 2], [0, 4, 1, 0], [3, 6], [5, 5])), [4, 2, 3, 6, 7])

    def test_a_said_step_that_is_not_answered_ends_a_line(self):
        # 0 -> 1 -> 2, where 2 says 3 is next and 3 says nothing of it.
        self.assertEqual(ends([2, 0, 3, 1, 4, 2, 0, 0]), [2, 0, 2])

    def test_a_said_step_from_before_that_is_not_answered_begins_a_line(self):
        # 3 is said to be before 0, and says nothing of it.
        self.assertEqual(ends([2, 4, 3, 1, 0, 2, 0, 0]), [2, 0, 2])

    def test_two_that_say_the_same_next(self):
        # 0 and 1 both say 2 is next; 2 says 1 is before it.
        self.assertEqual(ends([3, 0, 3, 0, 0, 2]), [2, 1, 2])


class Corners(unittest.TestCase):
    def test_no_points(self):
        self.assertEqual(ends([]), [0])

    def test_one_point_that_says_nothing(self):
        self.assertEqual(ends([0, 0]), [0])

    def test_a_point_that_says_itself_one_way(self):
        self.assertEqual(ends([1, 0]), [0])
        self.assertEqual(ends([0, 1]), [0])

    def test_a_round_of_one(self):
        self.assertEqual(ends([1, 1]), [0])

    def test_two_that_do_not_say_the_same(self):
        self.assertEqual(ends([2, 0, 0, 0]), [0])
        self.assertEqual(ends([0, 0, 0, 1]), [0])
        self.assertEqual(ends([2, 0, 1, 0]), [0])
        self.assertEqual(ends([0, 2, 0, 1]), [0])

    def test_a_line_of_two(self):
        self.assertEqual(ends([2, 0, 0, 1]), [2, 0, 1])
        self.assertEqual(ends([0, 2, 1, 0]), [2, 0, 1])

    def test_a_round_of_two(self):
        self.assertEqual(ends([2, 2, 1, 1]), [0])

    def test_a_line_with_a_round_beside_it(self):
        self.assertEqual(ends(told(5, [4, 0], [1, 2, 3, 1])), [2, 0, 4])
        self.assertEqual(ends(told(3, [0, 2], [1, 1])), [2, 0, 2])

    def test_a_line_whose_end_points_at_a_round(self):
        # 0 -> 1, and 1 says 2 is next, but 2 is a round of one.
        self.assertEqual(ends([2, 0, 3, 1, 3, 3]), [2, 0, 1])


class Refusals(unittest.TestCase):
    def test_odd_length(self):
        for numbers in ([0], [1], [0, 0, 0], [2, 0, 0, 1, 0], [0] * 799):
            self.assertEqual(ends(numbers), [-22])

    def test_a_number_beyond_the_points(self):
        for beyond in (3, 4, LARGEST):
            for place in range(4):
                numbers = [0, 0, 0, 0]
                numbers[place] = beyond
                self.assertEqual(ends(numbers), [-22])

    def test_the_largest_number_within_the_points(self):
        for place in range(4):
            numbers = [0, 0, 0, 0]
            numbers[place] = 2
            self.assertEqual(ends(numbers), [0])

    def test_a_number_beyond_the_points_of_the_largest_list(self):
        for place in (0, 1, 798, 799):
            numbers = [0] * 800
            numbers[place] = 401
            self.assertEqual(ends(numbers), [-22])

    def test_more_than_400_points(self):
        for length in (801, 802, 1000):
            self.assertEqual(ends([0] * length), [-22])


class Largest(unittest.TestCase):
    def test_one_line_over_all_points(self):
        self.assertEqual(ends(told(400, list(range(400)))), [2, 0, 399])

    def test_all_points_ends(self):
        pairs = [[2 * k + 1, 2 * k] for k in range(200)]
        self.assertEqual(ends(told(400, *pairs)), [400] + list(range(400)))

    def test_one_round_over_all_points(self):
        self.assertEqual(ends(told(400, list(range(400)) + [0])), [0])

    def test_400_points_alone(self):
        self.assertEqual(ends([0] * 800), [0])


class EverySmallList(unittest.TestCase):
    def test_as_the_words_say(self):
        for count in range(4):
            for numbers in all_lists(count):
                self.assertEqual(ends(numbers), ends_of(numbers), numbers)

    def test_as_many_begin_as_stop(self):
        for numbers in all_lists(3):
            self.assertEqual(ends(numbers)[0], 2 * len(beginnings_of(numbers)))
            self.assertEqual(ends(numbers)[0], 2 * len(stops_of(numbers)))


class HandedIn(unittest.TestCase):
    def test_the_list_is_not_changed(self):
        for numbers in ([], [2, 0, 3, 1, 0, 2], [1, 1], [0], [0, 9]):
            handed = Untouchable(numbers)
            ends(handed)
            self.assertEqual(list(handed), numbers)

    def test_nothing_is_kept(self):
        numbers = told(4, [3, 1])
        first = ends(numbers)
        first.append(7)
        self.assertEqual(ends([0]), [-22])
        self.assertEqual(ends(numbers), [2, 1, 3])
        numbers[2 * 3] = 0
        self.assertEqual(ends(numbers), [0])


if __name__ == "__main__":
    unittest.main()
