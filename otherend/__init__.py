"""A line and its other end."""
