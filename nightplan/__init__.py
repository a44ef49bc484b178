"""A night's plan: when stars are up, where rows of slots may begin, and what masks have in them."""
