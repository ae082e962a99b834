import unittest

from building import Untouchable, all_lists, step_of, told, with_few_calls_nested
from otherend.lines import step


def steps(numbers):
    return [step(v, numbers) for v in range(len(numbers) // 2)]


class Ordinary(unittest.TestCase):
    def test_on_a_line(self):
        self.assertEqual(steps([2, 0, 3, 1, 0, 2]), [[2, 0], [3, 1], [0, 2]])

    def test_on_a_round(self):
        self.assertEqual(steps(told(3, [0, 2, 1, 0])), [[3, 2], [1, 3], [2, 1]])

    def test_alone(self):
        self.assertEqual(steps([0] * 6), [[0, 0]] * 3)

    def test_all_three(self):
        numbers = told(7, [5, 2, 0], [1, 4, 6, 1])
        self.assertEqual(steps(numbers), [[0, 3], [5, 7], [1, 6], [0, 0], [7, 2], [3, 0], [2, 5]])

    def test_a_next_that_is_not_answered_is_no_step(self):
        # 0 -> 1, and 1 says 2 is next, but 2 says none is before it, or another.
        self.assertEqual(steps([2, 0, 3, 1, 0, 0]), [[2, 0], [0, 1], [0, 0]])
        self.assertEqual(steps([2, 0, 3, 1, 0, 1]), [[2, 0], [0, 1], [0, 0]])

    def test_a_before_that_is_not_answered_is_no_step(self):
        # 1 -> 2, and 1 says 0 is before it, but 0 says none is next, or another.
        self.assertEqual(steps([0, 0, 3, 1, 0, 2]), [[0, 0], [3, 0], [0, 2]])
        self.assertEqual(steps([3, 0, 3, 1, 0, 2]), [[0, 0], [3, 0], [0, 2]])

    def test_two_that_say_the_same_next(self):
        # 0 and 1 both say 2 is next; 2 says 1 is before it.
        self.assertEqual(steps([3, 0, 3, 0, 0, 2]), [[0, 0], [3, 0], [0, 2]])

    def test_two_that_say_the_same_before(self):
        # 1 and 2 both say 0 is before them; 0 says 2 is next.
        self.assertEqual(steps([3, 0, 0, 1, 0, 1]), [[3, 0], [0, 0], [0, 1]])


class Corners(unittest.TestCase):
    def test_a_point_that_says_itself_one_way(self):
        self.assertEqual(step(0, [1, 0]), [0, 0])
        self.assertEqual(step(0, [0, 1]), [0, 0])

    def test_a_round_of_one(self):
        self.assertEqual(step(0, [1, 1]), [1, 1])
        self.assertEqual(steps(told(3, [2, 2])), [[0, 0], [0, 0], [3, 3]])

    def test_an_end_that_says_itself(self):
        # 0 says itself is before it, 1 says itself is next; neither is a step, and 0 -> 1 is one.
        self.assertEqual(steps([2, 1, 2, 1]), [[2, 0], [0, 1]])

    def test_two_that_do_not_say_the_same(self):
        for numbers in ([2, 0, 0, 0], [0, 0, 0, 1], [2, 0, 1, 0], [0, 2, 0, 1]):
            self.assertEqual(steps(numbers), [[0, 0], [0, 0]])

    def test_a_line_of_two(self):
        self.assertEqual(steps([2, 0, 0, 1]), [[2, 0], [0, 1]])
        self.assertEqual(steps([0, 2, 1, 0]), [[0, 2], [1, 0]])

    def test_a_round_of_two(self):
        self.assertEqual(steps([2, 2, 1, 1]), [[2, 2], [1, 1]])

    def test_a_line_with_a_round_beside_it(self):
        numbers = told(5, [4, 0], [3, 2, 1, 3])
        self.assertEqual(steps(numbers), [[0, 5], [4, 3], [2, 4], [3, 2], [1, 0]])

    def test_a_line_whose_end_points_at_a_round(self):
        # 0 -> 1, and 1 says 2 is next, but 2 is a round of one.
        self.assertEqual(steps([2, 0, 3, 1, 3, 3]), [[2, 0], [0, 1], [3, 3]])


class Largest(unittest.TestCase):
    def test_one_line_over_all_points(self):
        numbers = told(400, list(range(400)))
        self.assertEqual(len(numbers), 800)
        self.assertEqual(steps(numbers), [[2, 0]] + [[v + 2, v] for v in range(1, 399)] + [[0, 399]])

    def test_one_round_over_all_points(self):
        numbers = told(400, list(range(400)) + [0])
        self.assertEqual(steps(numbers), [[2, 400]] + [[v + 2, v] for v in range(1, 399)] + [[1, 399]])

    def test_400_rounds_of_one(self):
        numbers = told(400, *[[k, k] for k in range(400)])
        self.assertEqual(steps(numbers), [[v + 1, v + 1] for v in range(400)])

    def test_400_points_alone(self):
        self.assertEqual(steps([0] * 800), [[0, 0]] * 400)

    def test_400_points_that_all_say_the_last(self):
        self.assertEqual(steps([400] * 800), [[0, 0]] * 399 + [[400, 400]])

    def test_by_loops(self):
        numbers = told(400, list(range(400)))
        self.assertEqual(with_few_calls_nested(lambda: step(200, numbers)), [202, 200])


class EverySmallList(unittest.TestCase):
    def test_as_the_words_say(self):
        for count in range(4):
            for numbers in all_lists(count):
                for v in range(count):
                    self.assertEqual(step(v, numbers), step_of(v, numbers), (v, numbers))
                self.assertEqual(step(count, numbers), [-2])


class HandedIn(unittest.TestCase):
    def test_the_list_is_not_changed(self):
        numbers = told(5, [0, 1, 2], [3, 3])
        for v, given, answer in ((0, numbers, [2, 0]), (1, numbers, [3, 1]), (3, numbers, [4, 4]),
                                 (4, numbers, [0, 0]), (5, numbers, [-2]), (0, [], [-2]), (0, [0], [-22]),
                                 (0, [0, 9], [-22])):
            handed = Untouchable(given)
            self.assertEqual(step(v, handed), answer)
            self.assertEqual(list(handed), given)

    def test_nothing_is_kept(self):
        numbers = told(4, [3, 1, 2])
        first = step(1, numbers)
        first.append(7)
        self.assertEqual(step(1, [0]), [-22])
        self.assertEqual(step(1, numbers), [3, 4])
        numbers[2 * 3] = 0
        self.assertEqual(step(1, numbers), [3, 0])


if __name__ == "__main__":
    unittest.main()
