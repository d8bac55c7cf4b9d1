"""Roots of whole numbers, cut to whole numbers."""


def power_of(base, degree):
    """base, degree times multiplied."""
    product = 1
    for factor in range(degree):
        product = product * base
    return product


def cut_root(number, degree):
    """The greatest whole number whose power of the degree is at most the number."""
    root = 0
    for place in range(number.bit_length() // degree, -1, -1):
        tried = root + (1 << place)
        if power_of(tried, degree) <= number:
            root = tried
    return root
