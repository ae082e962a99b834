"""What holds between the calls: what they say of the same list fits together."""

import unittest

from building import all_lists, all_steps, said, steps_of, told
from otherend.lines import ends, kind, line, other, round_of, rounds, step


class WhatHolds(unittest.TestCase):
    def holds(self, numbers):
        points = range(len(numbers) // 2)
        steps = [step(v, numbers) for v in points]
        with self.subTest(numbers=numbers):
            self.steps_go_both_ways(steps)
            self.ends_are_where_it_begins_or_stops(numbers, steps)
            self.other_ends_fit(numbers, steps)
            self.lines_fit(numbers, steps)
            self.rounds_fit(numbers, steps)
            self.each_point_is_in_one_place(numbers, steps)

    def steps_go_both_ways(self, steps):
        for v, (onward, back) in enumerate(steps):
            if onward != 0:
                self.assertEqual(steps[onward - 1][1], v + 1)
            if back != 0:
                self.assertEqual(steps[back - 1][0], v + 1)

    def ends_are_where_it_begins_or_stops(self, numbers, steps):
        begin = [v for v, (onward, back) in enumerate(steps) if onward != 0 and back == 0]
        stop = [v for v, (onward, back) in enumerate(steps) if onward == 0 and back != 0]
        self.assertEqual(len(begin), len(stop))
        self.assertEqual(ends(numbers), [len(begin + stop)] + sorted(begin + stop))

    def other_ends_fit(self, numbers, steps):
        found = ends(numbers)[1:]
        for v in range(len(steps)):
            if v not in found:
                self.assertEqual(other(v, numbers), [-33])
                continue
            there, count = other(v, numbers)
            self.assertNotEqual(there, v)
            self.assertIn(there, found)
            self.assertEqual(other(there, numbers), [v, count])
            # Where the one begins the other stops.
            self.assertNotEqual(steps[v][0] == 0, steps[there][0] == 0)

    def lines_fit(self, numbers, steps):
        found = ends(numbers)[1:]
        for v in range(len(steps)):
            if v not in found:
                self.assertEqual(line(v, numbers), [-33])
                continue
            count, *path = line(v, numbers)
            self.assertEqual(count, len(path))
            self.assertEqual(len(path), len(set(path)))
            self.assertEqual(path[0], v)
            self.assertEqual(other(v, numbers), [path[-1], count - 1])
            self.assertEqual(line(path[-1], numbers), [count] + path[::-1])
            way = 0 if steps[v][0] != 0 else 1
            self.assertEqual([steps[point][way] for point in path], [point + 1 for point in path[1:]] + [0])

    def rounds_fit(self, numbers, steps):
        least = set()
        for v in range(len(steps)):
            if kind(v, numbers) != [2]:
                self.assertEqual(round_of(v, numbers), [-33])
                continue
            count, *path = round_of(v, numbers)
            self.assertEqual(count, len(path))
            self.assertEqual(len(path), len(set(path)))
            self.assertEqual(path[0], v)
            self.assertEqual([steps[point][0] for point in path], [point + 1 for point in path[1:] + path[:1]])
            self.assertEqual(round_of(path[-1], numbers), [count] + path[-1:] + path[:-1])
            least.add(min(path))
        self.assertEqual(rounds(numbers), [len(least)] + sorted(least))

    def each_point_is_in_one_place(self, numbers, steps):
        alone = [v for v, both in enumerate(steps) if both == [0, 0]]
        begin = [v for v in ends(numbers)[1:] if steps[v][0] != 0]
        on_lines = [point for v in begin for point in line(v, numbers)[1:]]
        on_rounds = [point for v in rounds(numbers)[1:] for point in round_of(v, numbers)[1:]]
        self.assertEqual(sorted(alone + on_lines + on_rounds), list(range(len(steps))))
        for answer, points in (([0], alone), ([1], on_lines), ([2], on_rounds)):
            for point in points:
                self.assertEqual(kind(point, numbers), answer)


class Small(WhatHolds):
    def test_no_points(self):
        self.holds([])

    def test_every_list_of_up_to_three_points(self):
        for count in range(4):
            for numbers in all_lists(count):
                self.holds(numbers)

    def test_all_ways_that_steps_can_lead_among_four_or_five_points(self):
        # As many as there are ways to pair off some of the points with as many of them.
        for count, ways in ((4, 209), (5, 1546)):
            lists = all_steps(count)
            self.assertEqual(len(lists), ways)
            for numbers in lists:
                self.holds(numbers)


class Larger(WhatHolds):
    def test_lines_and_rounds_among_each_other(self):
        self.holds(told(12, [11, 4, 7, 0], [3, 2], [10, 9, 8, 6, 10], [1, 1]))

    def test_much_that_is_said_and_little_answered(self):
        met = 0
        for count in range(5, 40):
            for factor in range(4):
                for shift in (1, 5, 11):
                    numbers = said(count, factor, shift)
                    met += len(steps_of(numbers))
                    self.holds(numbers)
        # Lists in which nothing is answered would show nothing.
        self.assertGreater(met, 100)


class Largest(WhatHolds):
    def test_one_line_over_all_points(self):
        self.holds(told(400, [(7 + 137 * k) % 400 for k in range(400)]))

    def test_one_round_over_all_points(self):
        self.holds(told(400, [(7 + 137 * k) % 400 for k in range(401)]))

    def test_lines_rounds_and_points_alone_over_all_points(self):
        mixed = [(7 + 137 * k) % 400 for k in range(400)]
        paths = []
        start = 0
        # Pieces of 1, 2, 3 .. points, by turns a line, a round, and points alone.
        for size in range(1, 28):
            piece = mixed[start:start + size]
            start += size
            if size % 3 != 0:
                paths.append(piece if size % 3 == 1 else piece + piece[:1])
        numbers = told(400, *paths)
        self.holds(numbers)
        self.assertEqual((ends(numbers)[0], rounds(numbers)[0]), (16, 9))

    def test_400_rounds_of_one(self):
        self.holds(told(400, *[[k, k] for k in range(400)]))

    def test_400_points_alone(self):
        self.holds([0] * 800)


if __name__ == "__main__":
    unittest.main()
