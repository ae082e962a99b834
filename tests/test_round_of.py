import unittest

from building import Untouchable, all_lists, round_from, told, with_few_calls_nested
from otherend.lines import round_of


class Ordinary(unittest.TestCase):
    def test_from_each_point_on(self):
        numbers = told(4, [0, 2, 1, 3, 0])
        self.assertEqual(round_of(0, numbers), [4, 0, 2, 1, 3])
        self.assertEqual(round_of(1, numbers), [4, 1, 3, 0, 2])
        self.assertEqual(round_of(2, numbers), [4, 2, 1, 3, 0])
        self.assertEqual(round_of(3, numbers), [4, 3, 0, 2, 1])

    def test_on_not_back(self):
        self.assertEqual(round_of(0, told(3, [0, 1, 2, 0])), [3, 0, 1, 2])
        self.assertEqual(round_of(0, told(3, [2, 1, 0, 2])), [3, 0, 2, 1])

    def test_several_rounds(self):
        numbers = told(10, [6, 3, 8, 6], [5, 1, 5], [4, 4], [9, 7, 2, 9])
        self.assertEqual(round_of(1, numbers), [2, 1, 5])
        self.assertEqual(round_of(5, numbers), [2, 5, 1])
        self.assertEqual(round_of(8, numbers), [3, 8, 6, 3])
        self.assertEqual(round_of(7, numbers), [3, 7, 2, 9])
        self.assertEqual(round_of(4, numbers), [1, 4])
        self.assertEqual(round_of(0, numbers), [-33])

    def test_a_round_that_one_does_not_answer_is_a_line(self):
        # 0 -> 1 -> 2, and 2 says 0 is next, but 0 says none is before it; then the other way about.
        for v in range(3):
            self.assertEqual(round_of(v, [2, 0, 3, 1, 1, 2]), [-33])
            self.assertEqual(round_of(v, [2, 3, 3, 1, 0, 2]), [-33])

    def test_a_point_beside_that_says_it_is_on_the_round(self):
        # 0 -> 1 -> 0; 2 says 0 is next and 1 is before it.
        numbers = [2, 2, 1, 1, 1, 2]
        self.assertEqual(round_of(0, numbers), [2, 0, 1])
        self.assertEqual(round_of(1, numbers), [2, 1, 0])
        self.assertEqual(round_of(2, numbers), [-33])


class Corners(unittest.TestCase):
    def test_a_round_of_one(self):
        self.assertEqual(round_of(0, [1, 1]), [1, 0])
        self.assertEqual(round_of(2, told(3, [2, 2])), [1, 2])

    def test_a_round_of_two(self):
        self.assertEqual(round_of(0, [2, 2, 1, 1]), [2, 0, 1])
        self.assertEqual(round_of(1, [2, 2, 1, 1]), [2, 1, 0])

    def test_a_line_with_a_round_beside_it(self):
        numbers = told(5, [4, 0], [3, 2, 1, 3])
        self.assertEqual([round_of(v, numbers) for v in range(5)],
                         [[-33], [3, 1, 3, 2], [3, 2, 1, 3], [3, 3, 2, 1], [-33]])
        self.assertEqual(round_of(1, told(3, [0, 2], [1, 1])), [1, 1])

    def test_a_line_whose_end_points_at_a_round(self):
        # 0 -> 1, and 1 says 2 is next, but 2 is a round of one.
        self.assertEqual([round_of(v, [2, 0, 3, 1, 3, 3]) for v in range(3)], [[-33], [-33], [1, 2]])


class Largest(unittest.TestCase):
    def test_one_round_over_all_points(self):
        for path in (list(range(400)), [(7 + 137 * k) % 400 for k in range(400)]):
            numbers = told(400, path + path[:1])
            self.assertEqual(len(numbers), 800)
            for place in (0, 1, 200, 399):
                self.assertEqual(round_of(path[place], numbers), [400] + path[place:] + path[:place])

    def test_400_rounds_of_one(self):
        numbers = told(400, *[[k, k] for k in range(400)])
        self.assertEqual([round_of(v, numbers) for v in range(400)], [[1, v] for v in range(400)])

    def test_one_line_over_all_points(self):
        numbers = told(400, list(range(400)))
        self.assertEqual([round_of(v, numbers) for v in range(400)], [[-33]] * 400)

    def test_by_loops(self):
        path = list(range(400))
        for numbers, answer in ((told(400, path), [-33]), (told(400, path + [0]), [400] + path)):
            self.assertEqual(with_few_calls_nested(lambda: round_of(0, numbers)), answer)


class EverySmallList(unittest.TestCase):
    def test_as_the_words_say(self):
        for count in range(4):
            for numbers in all_lists(count):
                for v in range(count):
                    self.assertEqual(round_of(v, numbers), round_from(v, numbers), (v, numbers))
                self.assertEqual(round_of(count, numbers), [-2])


class HandedIn(unittest.TestCase):
    def test_the_list_is_not_changed(self):
        numbers = told(6, [0, 1, 2], [3, 5, 3])
        for v, given, answer in ((3, numbers, [2, 3, 5]), (5, numbers, [2, 5, 3]), (1, numbers, [-33]),
                                 (4, numbers, [-33]), (6, numbers, [-2]), (0, [], [-2]), (0, [0], [-22]),
                                 (0, [0, 9], [-22])):
            handed = Untouchable(given)
            self.assertEqual(round_of(v, handed), answer)
            self.assertEqual(list(handed), given)

    def test_nothing_is_kept(self):
        numbers = told(4, [3, 1, 2, 3])
        first = round_of(1, numbers)
        first.append(7)
        self.assertEqual(round_of(1, [0]), [-22])
        self.assertEqual(round_of(1, numbers), [3, 1, 2, 3])
        numbers[2 * 3] = 0
        self.assertEqual(round_of(1, numbers), [-33])


if __name__ == "__main__":
    unittest.main()
