"""Lists for the tests, and what the document's words say of them, told another way than the package does."""

import inspect
import itertools
import sys

LARGEST = 4294967295


class Untouchable(list):
    """A list that fails the moment anything tries to change it, even for a while."""


def refuse_change(*args, **kwargs):
    raise AssertionError("the list that was handed in was changed")


for method in ("__setitem__", "__delitem__", "__iadd__", "__imul__", "append", "clear", "extend",
               "insert", "pop", "remove", "reverse", "sort"):
    setattr(Untouchable, method, refuse_change)


def with_few_calls_nested(action):
    """What the action gives back; it fails if it nests calls as deep as its input is long."""
    before = sys.getrecursionlimit()
    sys.setrecursionlimit(len(inspect.stack()) + 50)
    try:
        return action()
    finally:
        sys.setrecursionlimit(before)


def said(count, factor, shift):
    """A list of count points that say one another as the arithmetic falls out: some answered, most not."""
    return [(place * place * factor + place * shift + place // 3) % (count + 1) for place in range(2 * count)]


def told(count, *paths):
    """A list of count points where steps lead along each path; a path that ends where it began is a round."""
    numbers = [0] * (2 * count)
    for path in paths:
        for here, there in zip(path, path[1:]):
            numbers[2 * here] = there + 1
            numbers[2 * there + 1] = here + 1
    return numbers


def all_lists(count):
    """Every list of so many points that isn't refused."""
    return [list(numbers) for numbers in itertools.product(range(count + 1), repeat=2 * count)]


def all_steps(count):
    """For each way that steps can lead among so many points, a list where nothing else is said."""
    found = []
    for leads in itertools.product(range(count + 1), repeat=count):
        said_once = [there for there in leads if there != 0]
        if len(said_once) == len(set(said_once)):
            found.append(told(count, *[[here, there - 1] for here, there in enumerate(leads) if there != 0]))
    return found


def steps_of(numbers):
    """Every step, as a pair of points: found by trying all pairs."""
    points = range(len(numbers) // 2)
    return {(a, b) for a in points for b in points
            if numbers[2 * a] == b + 1 and numbers[2 * b + 1] == a + 1}


def step_of(point, numbers):
    """The answer for a point that is there."""
    steps = steps_of(numbers)
    # The sums hold one number at most: to and from each point at most one step leads.
    return [sum(b + 1 for a, b in steps if a == point), sum(a + 1 for a, b in steps if b == point)]


def beginnings_of(numbers):
    steps = steps_of(numbers)
    return {a for a, b in steps} - {b for a, b in steps}


def stops_of(numbers):
    steps = steps_of(numbers)
    return {b for a, b in steps} - {a for a, b in steps}


def ends_of(numbers):
    found = sorted(beginnings_of(numbers) | stops_of(numbers))
    return [len(found)] + found


def line_of(point, numbers):
    """The answer for a point that is there."""
    pairs = dict(steps_of(numbers))
    if point in stops_of(numbers):
        pairs = {b: a for a, b in pairs.items()}
    elif point not in beginnings_of(numbers):
        return [-33]
    path = [point]
    while path[-1] in pairs:
        path.append(pairs[path[-1]])
    return [len(path)] + path


def other_of(point, numbers):
    """The answer for a point that is there."""
    answer = line_of(point, numbers)
    return answer if answer == [-33] else [answer[-1], answer[0] - 1]


def ways_of(numbers):
    """Every pair of points where steps lead from the one to the other: found by joining steps till none is new."""
    steps = steps_of(numbers)
    ways = set()
    longer = set(steps)
    while longer != ways:
        ways = longer
        longer = ways | {(a, d) for a, b in ways for c, d in steps if b == c}
    return ways


def kind_of(point, numbers):
    """The answer for a point that is there."""
    if all(point not in pair for pair in steps_of(numbers)):
        return [0]
    return [2] if (point, point) in ways_of(numbers) else [1]


def rounds_of(numbers):
    ways = ways_of(numbers)
    # From a point on a round, ways lead to the points of that round and to no others.
    found = sorted({min(b for a, b in ways if a == point) for point, there in ways if point == there})
    return [len(found)] + found


def round_from(point, numbers):
    """The answer for a point that is there."""
    pairs = dict(steps_of(numbers))
    path = [point]
    while path[-1] in pairs:
        there = pairs[path[-1]]
        if there == point:
            return [len(path)] + path
        path.append(there)
    return [-33]
