"""Functions whose last bit is right: exact values, rounded once."""
