"""A night's plan: when stars are up, where rows of slots may begin, the best jobs, and the shortest tour."""
