"""Towers that watch one another and act one at a time."""
