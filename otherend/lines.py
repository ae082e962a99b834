"""Lines of points, the ends that they lead to, and the rounds that lead to none.

A list l holds two numbers for each point: which point it says is next, and which one before it.
As in l, a point that may be missing is told here as one more than its number, with 0 for none.
"""

MOST_POINTS = 400

LIST_REFUSED = -22
POINT_REFUSED = -2
PLACE_REFUSED = -33

ALONE = 0
ON_LINE = 1
ON_ROUND = 2


def ends(l):
    """How many ends there are, then these, rising."""
    if not list_fits(l):
        return [LIST_REFUSED]
    found = [point for point in range(count_points(l)) if is_end(point, l)]
    return [len(found)] + found


def other(v, l):
    """The other end of end v, then how many steps lead there."""
    refusal = refusal_of_end(v, l)
    if refusal != 0:
        return [refusal]
    points = points_from_end(v, l)
    return [points[-1], len(points) - 1]


def line(v, l):
    """How many points, then the line from end v to its other end."""
    refusal = refusal_of_end(v, l)
    if refusal != 0:
        return [refusal]
    points = points_from_end(v, l)
    return [len(points)] + points


def kind(v, l):
    """Whether point v is alone, on a line, or on a round."""
    refusal = refusal_of_point(v, l)
    if refusal != 0:
        return [refusal]
    if is_alone(v, l):
        return [ALONE]
    return [ON_ROUND if is_on_round(v, l) else ON_LINE]


def rounds(l):
    """How many rounds there are, then the least point of each, rising."""
    if not list_fits(l):
        return [LIST_REFUSED]
    found = least_of_rounds(l)
    return [len(found)] + found


def round_of(v, l):
    """How many points, then the round from point v on."""
    refusal = refusal_of_round(v, l)
    if refusal != 0:
        return [refusal]
    points = points_along(v, l, True)
    return [len(points)] + points


def step(v, l):
    """One more than the point to which a step leads from v, then than that from which one leads to v; 0 for none."""
    refusal = refusal_of_point(v, l)
    if refusal != 0:
        return [refusal]
    return [step_on(v, l), step_back(v, l)]


def count_points(l):
    return len(l) // 2


def list_fits(l):
    if len(l) % 2 != 0 or count_points(l) > MOST_POINTS:
        return False
    # A number is one more than its point, so the count of points itself is still within them.
    return all([number <= count_points(l) for number in l])


def refusal_of_point(v, l):
    """The refusal that is due where a point is asked for, or 0."""
    if not list_fits(l):
        return LIST_REFUSED
    if v >= count_points(l):
        return POINT_REFUSED
    return 0


def refusal_of_end(v, l):
    """The refusal that is due where an end is asked for, or 0."""
    refusal = refusal_of_point(v, l)
    # Only of a point that is there can it be asked whether it is an end.
    if refusal == 0 and not is_end(v, l):
        return PLACE_REFUSED
    return refusal


def refusal_of_round(v, l):
    """The refusal that is due where a point on a round is asked for, or 0."""
    refusal = refusal_of_point(v, l)
    if refusal == 0 and not is_on_round(v, l):
        return PLACE_REFUSED
    return refusal


def said_next(v, l):
    return l[2 * v]


def said_before(v, l):
    return l[2 * v + 1]


def step_on(v, l):
    """One more than the point to which a step leads from v, or 0."""
    there = said_next(v, l)
    if there != 0 and said_before(there - 1, l) == v + 1:
        return there
    return 0


def step_back(v, l):
    """One more than the point from which a step leads to v, or 0."""
    there = said_before(v, l)
    if there != 0 and said_next(there - 1, l) == v + 1:
        return there
    return 0


def begins_at(v, l):
    return step_on(v, l) != 0 and step_back(v, l) == 0


def stops_at(v, l):
    return step_on(v, l) == 0 and step_back(v, l) != 0


def is_end(v, l):
    return begins_at(v, l) or stops_at(v, l)


def is_alone(v, l):
    return step_on(v, l) == 0 and step_back(v, l) == 0


def is_on_round(v, l):
    last = points_along(v, l, True)[-1]
    # A step that leads on from the last point can only lead to v.
    return step_on(last, l) != 0


def step_along(v, l, onward):
    return step_on(v, l) if onward else step_back(v, l)


def points_along(v, l, onward):
    """The points from v, on or back, till no step leads further or v comes again."""
    points = [v]
    there = step_along(v, l, onward)
    # To and from each point at most one step leads, so no point but v can come again and this stops.
    while there != 0 and there != v + 1:
        points.append(there - 1)
        there = step_along(there - 1, l, onward)
    return points


def points_from_end(v, l):
    """The points of a line, from its end v to its other end."""
    return points_along(v, l, begins_at(v, l))


def least_of_rounds(l):
    """The least point of each round, rising."""
    found = []
    passed = {}
    for point in range(count_points(l)):
        if point not in passed and is_on_round(point, l):
            # Points are tried rising, so the first of a round that is come upon is its least.
            found.append(point)
            for there in points_along(point, l, True):
                passed[there] = True
    return found
