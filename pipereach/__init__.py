"""Places that pipes lead to, told exactly by whole numbers and roots of two."""
