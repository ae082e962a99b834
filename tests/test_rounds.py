import unittest

from building import LARGEST, Untouchable, all_lists, rounds_of, told, with_few_calls_nested
from otherend.lines import rounds


class Ordinary(unittest.TestCase):
    def test_one_round(self):
        self.assertEqual(rounds(told(3, [0, 1, 2, 0])), [1, 0])
        self.assertEqual(rounds(told(3, [0, 2, 1, 0])), [1, 0])

    def test_the_least_point_is_not_the_first_that_there_is(self):
        self.assertEqual(rounds(told(6, [5, 2, 4, 5])), [1, 2])

    def test_several_rounds_rising(self):
        # However the rounds are told, each counts by its least point.
        paths = [6, 3, 8, 6], [5, 1, 5], [4, 4], [9, 7, 2, 9]
        for first in range(4):
            self.assertEqual(rounds(told(10, *paths[first:], *paths[:first])), [4, 1, 2, 3, 4])

    def test_rounds_within_one_another(self):
        # The numbers of each round lie between those of the next.
        self.assertEqual(rounds(told(7, [3, 3], [4, 2, 4], [5, 1, 5], [6, 0, 6])), [4, 0, 1, 2, 3])

    def test_rounds_that_take_turns(self):
        self.assertEqual(rounds(told(9, [6, 3, 0, 6], [1, 7, 4, 1], [8, 5, 2, 8])), [3, 0, 1, 2])

    def test_lines_are_no_rounds(self):
        self.assertEqual(rounds([2, 0, 3, 1, 0, 2]), [0])
        self.assertEqual(rounds(told(8, [7, 2], [0, 4, 6, 1])), [0])

    def test_points_alone_are_no_rounds(self):
        self.assertEqual(rounds([0] * 6), [0])

    def test_all_three(self):
        self.assertEqual(rounds(told(10, [7, 2, 0], [9, 4, 8, 9], [5, 5])), [2, 4, 5])

    def test_a_round_that_one_does_not_answer_is_a_line(self):
        # 0 -> 1 -> 2, and 2 says 0 is next, but 0 says none is before it; then the other way about.
        self.assertEqual(rounds([2, 0, 3, 1, 1, 2]), [0])
        self.assertEqual(rounds([2, 3, 3, 1, 0, 2]), [0])

    def test_a_point_beside_that_says_it_is_on_the_round(self):
        # 0 -> 1 -> 0; 2 says 0 is next and 1 is before it.
        self.assertEqual(rounds([2, 2, 1, 1, 1, 2]), [1, 0])


class Corners(unittest.TestCase):
    def test_no_points(self):
        self.assertEqual(rounds([]), [0])

    def test_one_point_that_says_nothing(self):
        self.assertEqual(rounds([0, 0]), [0])

    def test_a_point_that_says_itself_one_way(self):
        self.assertEqual(rounds([1, 0]), [0])
        self.assertEqual(rounds([0, 1]), [0])

    def test_a_round_of_one(self):
        self.assertEqual(rounds([1, 1]), [1, 0])
        self.assertEqual(rounds(told(3, [2, 2])), [1, 2])
        self.assertEqual(rounds(told(3, [2, 2], [0, 0])), [2, 0, 2])

    def test_two_that_do_not_say_the_same(self):
        for numbers in ([2, 0, 0, 0], [0, 0, 0, 1], [2, 0, 1, 0], [0, 2, 0, 1]):
            self.assertEqual(rounds(numbers), [0])

    def test_a_line_of_two(self):
        self.assertEqual(rounds([2, 0, 0, 1]), [0])
        self.assertEqual(rounds([0, 2, 1, 0]), [0])

    def test_a_round_of_two(self):
        self.assertEqual(rounds([2, 2, 1, 1]), [1, 0])

    def test_a_line_with_a_round_beside_it(self):
        self.assertEqual(rounds(told(5, [4, 0], [3, 2, 1, 3])), [1, 1])
        self.assertEqual(rounds(told(3, [0, 2], [1, 1])), [1, 1])

    def test_a_line_whose_end_points_at_a_round(self):
        # 0 -> 1, and 1 says 2 is next, but 2 is a round of one.
        self.assertEqual(rounds([2, 0, 3, 1, 3, 3]), [1, 2])


class Refusals(unittest.TestCase):
    def test_odd_length(self):
        for numbers in ([0], [1], [1, 1, 0], [2, 2, 1, 1, 0], [0] * 799):
            self.assertEqual(rounds(numbers), [-22])

    def test_a_number_beyond_the_points(self):
        # The round of one is whole; what is beyond is said by point 1.
        for beyond in (3, 4, LARGEST):
            self.assertEqual(rounds([1, 1, beyond, 0]), [-22])
            self.assertEqual(rounds([1, 1, 0, beyond]), [-22])
            self.assertEqual(rounds([beyond, 0, 2, 2]), [-22])
            self.assertEqual(rounds([0, beyond, 2, 2]), [-22])

    def test_the_largest_number_within_the_points(self):
        self.assertEqual(rounds([1, 1, 2, 0]), [1, 0])
        self.assertEqual(rounds([1, 1, 0, 2]), [1, 0])

    def test_a_number_beyond_the_points_of_the_largest_list(self):
        for place in (2, 3, 798, 799):
            numbers = told(400, [0, 0])
            numbers[place] = 400
            self.assertEqual(rounds(numbers), [1, 0])
            numbers[place] = 401
            self.assertEqual(rounds(numbers), [-22])

    def test_more_than_400_points(self):
        for count in (401, 500):
            self.assertEqual(rounds(told(count, [0, 0])), [-22])


class Largest(unittest.TestCase):
    def test_one_round_over_all_points(self):
        for path in (list(range(400)), list(range(399, -1, -1)), [(7 + 137 * k) % 400 for k in range(400)]):
            numbers = told(400, path + path[:1])
            self.assertEqual(len(numbers), 800)
            self.assertEqual(rounds(numbers), [1, 0])

    def test_400_rounds_of_one(self):
        self.assertEqual(rounds(told(400, *[[k, k] for k in range(400)])), [400] + list(range(400)))

    def test_200_rounds_of_two(self):
        numbers = told(400, *[[399 - k, k, 399 - k] for k in range(200)])
        self.assertEqual(rounds(numbers), [200] + list(range(200)))

    def test_one_line_over_all_points(self):
        self.assertEqual(rounds(told(400, list(range(400)))), [0])
        self.assertEqual(rounds(told(400, list(range(399, -1, -1)))), [0])

    def test_400_points_alone(self):
        self.assertEqual(rounds([0] * 800), [0])

    def test_by_loops(self):
        path = list(range(400))
        for numbers, answer in ((told(400, path), [0]), (told(400, path + [0]), [1, 0])):
            self.assertEqual(with_few_calls_nested(lambda: rounds(numbers)), answer)


class EverySmallList(unittest.TestCase):
    def test_as_the_words_say(self):
        for count in range(4):
            for numbers in all_lists(count):
                self.assertEqual(rounds(numbers), rounds_of(numbers), numbers)


class HandedIn(unittest.TestCase):
    def test_the_list_is_not_changed(self):
        for given, answer in (([], [0]), (told(6, [0, 1, 2], [5, 4, 5]), [1, 4]), ([1, 1], [1, 0]), ([0], [-22]),
                              ([0, 9], [-22])):
            handed = Untouchable(given)
            self.assertEqual(rounds(handed), answer)
            self.assertEqual(list(handed), given)

    def test_nothing_is_kept(self):
        numbers = told(5, [3, 1, 3], [4, 4])
        first = rounds(numbers)
        first.append(7)
        self.assertEqual(rounds([0]), [-22])
        self.assertEqual(rounds(numbers), [2, 1, 4])
        numbers[2 * 3] = 0
        self.assertEqual(rounds(numbers), [1, 4])


if __name__ == "__main__":
    unittest.main()
