"""A night's plan: when stars are up, and where rows of slots may begin."""
