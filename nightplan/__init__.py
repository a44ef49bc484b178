"""A night's plan: when stars are up, where rows may begin, the best jobs, the shortest tour, and what else fits."""
