import unittest

from building import Untouchable, all_lists, kind_of, told, with_few_calls_nested
from otherend.lines import ends, kind, line


def kinds(numbers):
    return [kind(v, numbers) for v in range(len(numbers) // 2)]


class Ordinary(unittest.TestCase):
    def test_on_a_line(self):
        self.assertEqual(kinds([2, 0, 3, 1, 0, 2]), [[1], [1], [1]])

    def test_on_a_round(self):
        self.assertEqual(kinds(told(3, [0, 2, 1, 0])), [[2], [2], [2]])

    def test_alone(self):
        self.assertEqual(kinds([0] * 6), [[0], [0], [0]])

    def test_all_three(self):
        numbers = told(9, [7, 2, 0], [1, 4, 8, 1], [5, 5])
        self.assertEqual(kinds(numbers), [[1], [2], [1], [0], [2], [2], [0], [1], [2]])

    def test_several_lines_and_rounds(self):
        numbers = told(8, [7, 2], [0, 4, 0], [3, 6], [1, 5, 1])
        self.assertEqual(kinds(numbers), [[2], [2], [1], [1], [2], [2], [1], [1]])

    def test_what_is_said_and_not_answered_is_no_step(self):
        # 3 says 0 is next and 2 is before it; neither says so of 3.
        self.assertEqual(kinds([2, 0, 3, 1, 0, 2, 1, 3]), [[1], [1], [1], [0]])

    def test_a_line_whose_other_end_says_the_first_is_next(self):
        # 2 says 0 is next, but 0 says none is before it: no round.
        self.assertEqual(kinds([2, 0, 3, 1, 1, 2]), [[1], [1], [1]])

    def test_a_line_whose_first_says_the_other_end_is_before(self):
        self.assertEqual(kinds([2, 3, 3, 1, 0, 2]), [[1], [1], [1]])


class Corners(unittest.TestCase):
    def test_a_point_that_says_itself_one_way(self):
        self.assertEqual(kind(0, [1, 0]), [0])
        self.assertEqual(kind(0, [0, 1]), [0])

    def test_a_round_of_one(self):
        self.assertEqual(kind(0, [1, 1]), [2])

    def test_two_that_do_not_say_the_same(self):
        for numbers in ([2, 0, 0, 0], [0, 0, 0, 1], [2, 0, 1, 0], [0, 2, 0, 1]):
            self.assertEqual(kinds(numbers), [[0], [0]])

    def test_a_line_of_two(self):
        self.assertEqual(kinds([2, 0, 0, 1]), [[1], [1]])
        self.assertEqual(kinds([0, 2, 1, 0]), [[1], [1]])

    def test_a_round_of_two(self):
        self.assertEqual(kinds([2, 2, 1, 1]), [[2], [2]])

    def test_a_line_with_a_round_beside_it(self):
        self.assertEqual(kinds(told(5, [4, 0], [1, 2, 3, 1])), [[1], [2], [2], [2], [1]])
        self.assertEqual(kinds(told(3, [0, 2], [1, 1])), [[1], [2], [1]])

    def test_a_line_whose_end_points_at_a_round(self):
        # 0 -> 1, and 1 says 2 is next, but 2 is a round of one.
        self.assertEqual(kinds([2, 0, 3, 1, 3, 3]), [[1], [1], [2]])

    def test_an_end_that_says_itself(self):
        # 0 says itself is before it, 1 says itself is next; neither is a step, and 0 -> 1 is one.
        self.assertEqual(kinds([2, 1, 2, 1]), [[1], [1]])


class Largest(unittest.TestCase):
    def test_one_line_over_all_points(self):
        numbers = told(400, list(range(400)))
        self.assertEqual(len(numbers), 800)
        self.assertEqual(kinds(numbers), [[1]] * 400)

    def test_one_round_over_all_points(self):
        path = [(7 + 137 * k) % 400 for k in range(400)]
        self.assertEqual(kinds(told(400, path + path[:1])), [[2]] * 400)

    def test_400_points_alone(self):
        self.assertEqual(kinds([0] * 800), [[0]] * 400)

    def test_400_rounds_of_one(self):
        self.assertEqual(kinds(told(400, *[[k, k] for k in range(400)])), [[2]] * 400)

    def test_by_loops(self):
        path = list(range(400))
        for numbers, answer in ((told(400, path), [1]), (told(400, path + [0]), [2])):
            answers = with_few_calls_nested(lambda: [kind(v, numbers) for v in (0, 200, 399)])
            self.assertEqual(answers, [answer] * 3)


class EverySmallList(unittest.TestCase):
    def test_as_the_words_say(self):
        for count in range(4):
            for numbers in all_lists(count):
                for v in range(count):
                    self.assertEqual(kind(v, numbers), kind_of(v, numbers), (v, numbers))
                self.assertEqual(kind(count, numbers), [-2])

    def test_on_a_line_are_the_points_of_one_line(self):
        for numbers in all_lists(3):
            # Each line is told twice, from either end.
            on_lines = [point for end in ends(numbers)[1:] for point in line(end, numbers)[1:]]
            for v in range(3):
                self.assertEqual(on_lines.count(v), 2 if kind(v, numbers) == [1] else 0, (v, numbers))


class HandedIn(unittest.TestCase):
    def test_the_list_is_not_changed(self):
        numbers = told(6, [0, 1, 2], [3, 4, 3])
        for v, given, answer in ((0, numbers, [1]), (1, numbers, [1]), (4, numbers, [2]), (5, numbers, [0]),
                                 (6, numbers, [-2]), (0, [], [-2]), (0, [0], [-22]), (0, [0, 9], [-22])):
            handed = Untouchable(given)
            self.assertEqual(kind(v, handed), answer)
            self.assertEqual(list(handed), given)

    def test_nothing_is_kept(self):
        numbers = told(3, [0, 1, 2, 0])
        first = kind(1, numbers)
        first.append(7)
        self.assertEqual(kind(1, [0]), [-22])
        self.assertEqual(kind(1, numbers), [2])
        numbers[2 * 2] = 0
        self.assertEqual(kind(1, numbers), [1])
        numbers[2 * 0] = 0
        numbers[2 * 1] = 0
        self.assertEqual(kind(1, numbers), [0])


if __name__ == "__main__":
    unittest.main()
