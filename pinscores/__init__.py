"""The scores of a pinball table."""
