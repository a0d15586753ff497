"""Tests of what the whole package promises: it prints, reads and imports nothing."""

import ast
import contextlib
import io
import os
import unittest

import towerchanges
from towerchanges.alone import far, may, moves, reach, traps

FOLDER = os.path.dirname(os.path.abspath(towerchanges.__file__))


def source_files():
    return sorted(name for name in os.listdir(FOLDER) if name.endswith(".py"))


def syntax_of(name):
    with open(os.path.join(FOLDER, name), encoding="ascii") as file:
        return ast.parse(file.read())


class Package(unittest.TestCase):
    def test_imports_nothing(self):
        for name in source_files():
            for node in ast.walk(syntax_of(name)):
                self.assertNotIsInstance(node, (ast.Import, ast.ImportFrom), name)

    def test_names_nothing_that_prints_or_reads(self):
        for name in source_files():
            for node in ast.walk(syntax_of(name)):
                if isinstance(node, ast.Name):
                    self.assertNotIn(node.id, ("print", "open", "input"), name)

    def test_prints_nothing(self):
        out, err = io.StringIO(), io.StringIO()
        with contextlib.redirect_stdout(out), contextlib.redirect_stderr(err):
            moves(2, 2, [15, 0])
            moves(0, 0, [])
            reach(2, 2, [15, 0])
            reach(0, 0, [])
            far(2, 2, 1, [15, 0])
            far(2, 1, 2, [15, 0])
            far(0, 0, 0, [])
            traps(2, [12, 5])
            traps(0, [])
            may(2, 2, [15, 0])
            may(0, 0, [])
        self.assertEqual((out.getvalue(), err.getvalue()), ("", ""))


if __name__ == "__main__":
    unittest.main()
