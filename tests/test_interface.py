"""What holds for every call: names, kinds, new lists; nothing kept, printed, read or imported."""

import contextlib
import inspect
import io
import subprocess
import sys
import unittest

from helper import HIGHEST_SCORE, LAST_INPUT, LAST_NUMBER, Untouchable
from pinscores import scores

PARAMETERS = {
    "of": ["number"],
    "number": ["a"],
    "add": ["a", "b"],
    "times": ["a", "m"],
    "passed": ["a", "b", "levels"],
    "show": ["a", "w"],
    "judge": ["best"],
    "enter": ["score", "best", "letters"],
}

# Of each call its arguments, and how many numbers are answered.
CALLS = (
    ("of", (0,), 2),
    ("of", (1,), 2),
    ("of", (1234567,), 2),
    ("of", (LAST_NUMBER,), 2),
    ("of", (10**12,), 1),
    ("of", (LAST_INPUT,), 1),
    ("number", (0,), 2),
    ("number", (1,), 2),
    ("number", (0x1234567,), 2),
    ("number", (HIGHEST_SCORE,), 2),
    ("number", (0xA,), 1),
    ("number", (2**48,), 1),
    ("number", (LAST_INPUT,), 1),
    ("add", (0, 0), 3),
    ("add", (0x1234567, 0x7654321), 3),
    ("add", (HIGHEST_SCORE, 1), 3),
    ("add", (HIGHEST_SCORE, HIGHEST_SCORE), 3),
    ("add", (0xA, 1), 1),
    ("add", (1, LAST_INPUT), 1),
    ("times", (0, 0), 3),
    ("times", (0x1234567, 1), 3),
    ("times", (0x500000000000, 2), 3),
    ("times", (HIGHEST_SCORE, 255), 3),
    ("times", (2**48, 2), 1),
    ("times", (1, 256), 1),
    ("passed", (0, 0, []), 2),
    ("passed", (0, 1, [1]), 2),
    ("passed", (HIGHEST_SCORE, 0x500, [1, 0x10, 0x600]), 2),
    ("passed", (0, 1, [0]), 1),
    ("passed", (0xA, 1, [1]), 1),
    ("passed", (0, 1, list(range(257))), 1),
    ("show", (0, 1), 2),
    ("show", (0x1234567, 7), 8),
    ("show", (HIGHEST_SCORE, 16), 17),
    ("show", (0xA, 7), 1),
    ("show", (1, 0), 1),
    ("show", (1, 17), 1),
    ("judge", ([0x20, 65, 90, 32] * 8,), 1),
    ("judge", ([],), 1),
    ("judge", ([0x20, 65, 90, 33] * 8,), 1),
    ("enter", (0x21, [0x20, 65, 90, 32] * 8, [65, 66, 67]), 34),
    ("enter", (0x1234567, [0x8888888, 65, 90, 32] * 5 + [0x20, 90, 65, 32] * 3, [65, 66, 67]), 34),
    ("enter", (0x21, [], [65, 66, 67]), 1),
    ("enter", (0xA, [0x20, 65, 90, 32] * 8, [65, 66, 67]), 1),
    ("enter", (0x21, [0x20, 65, 90, 32] * 8, [65, 66]), 1),
    ("enter", (0x20, [0x20, 65, 90, 32] * 8, [65, 66, 67]), 1),
)


# Python tells its audit hooks of each file, import and the like; a hook stays for good, so it is told when to listen.
heard = []
listening = []


def listen(event, arguments):
    if listening:
        heard.append(event)


sys.addaudithook(listen)


def answer_of(name, arguments):
    return getattr(scores, name)(*arguments)


def answer_of_untouchable(name, arguments):
    return answer_of(name, [Untouchable(each) if isinstance(each, list) else each for each in arguments])


class InterfaceTest(unittest.TestCase):
    def test_names_of_the_arguments(self):
        for name, parameters in PARAMETERS.items():
            self.assertEqual(list(inspect.signature(getattr(scores, name)).parameters), parameters, name)

    def test_arguments_may_be_handed_in_by_name(self):
        for name, arguments, length in CALLS:
            by_name = getattr(scores, name)(**dict(zip(PARAMETERS[name], arguments)))
            self.assertEqual(by_name, answer_of(name, arguments), (name, arguments))

    def test_every_call_is_tried(self):
        self.assertEqual({name for name, arguments, length in CALLS}, set(PARAMETERS))

    def test_answer_is_a_list_of_whole_numbers(self):
        for name, arguments, length in CALLS:
            answer = answer_of(name, arguments)
            self.assertIs(type(answer), list, (name, arguments))
            self.assertEqual([type(each) for each in answer], [int] * length, (name, arguments))

    def test_refusal_stands_alone_and_what_is_answered_behind_0(self):
        for name, arguments, length in CALLS:
            answer = answer_of(name, arguments)
            self.assertEqual(len(answer), length, (name, arguments))
            # Only judge has nothing to tell behind its 0.
            if length == 1 and name != "judge":
                self.assertLess(answer[0], 0, (name, arguments))
            if length > 1:
                self.assertEqual(answer[0], 0, (name, arguments))

    def test_answer_is_a_new_list_each_time(self):
        for name, arguments, length in CALLS:
            first = answer_of(name, arguments)
            kept = list(first)
            second = answer_of(name, arguments)
            self.assertIsNot(first, second, (name, arguments))
            first.append(5)
            first[0] = 99
            self.assertEqual(second, kept, (name, arguments))
            self.assertEqual(answer_of(name, arguments), kept, (name, arguments))

    def test_nothing_is_kept_between_calls(self):
        forward = [answer_of(name, arguments) for name, arguments, length in CALLS]
        backward = [answer_of(name, arguments) for name, arguments, length in reversed(CALLS)]
        self.assertEqual(forward, list(reversed(backward)))

    def test_each_call_behind_each_other_answers_as_for_the_first_time(self):
        first_time = [answer_of(name, arguments) for name, arguments, length in CALLS]
        for name, arguments, length in CALLS:
            for call, expected in zip(CALLS, first_time):
                answer_of(name, arguments)
                self.assertEqual(answer_of(call[0], call[1]), expected, (name, arguments, call))

    def test_called_again_and_again(self):
        for name, arguments, length in CALLS:
            answers = [answer_of(name, arguments) for turn in range(50)]
            self.assertEqual(answers, answers[:1] * 50, (name, arguments))

    def test_what_the_file_holds_is_not_changed(self):
        before = repr(sorted((name, each) for name, each in vars(scores).items() if name.isupper()))
        for name, arguments, length in CALLS:
            answer_of(name, arguments).append(1)
        after = repr(sorted((name, each) for name, each in vars(scores).items() if name.isupper()))
        self.assertEqual(before, after)

    def test_what_is_handed_in_is_not_changed(self):
        for name, arguments, length in CALLS:
            before = repr(arguments)
            answer = answer_of(name, arguments)
            self.assertEqual(repr(arguments), before, name)
            self.assertEqual(answer_of_untouchable(name, arguments), answer, name)

    def test_nothing_is_read_or_imported(self):
        modules = set(sys.modules)
        heard.clear()
        listening.append(True)
        try:
            for name, arguments, length in CALLS:
                answer_of(name, arguments)
        finally:
            listening.clear()
        self.assertEqual(heard, [])
        self.assertEqual(set(sys.modules), modules)

    def test_listening_hears_an_import(self):
        heard.clear()
        listening.append(True)
        try:
            with self.assertRaises(ImportError):
                __import__("no_such_file_of_this_name")
        finally:
            listening.clear()
        self.assertIn("import", heard)

    def test_the_package_brings_nothing_but_itself(self):
        program = ("import sys\nbefore = set(sys.modules)\nimport pinscores.scores\n"
                   "print(sorted(set(sys.modules) - before))")
        run = subprocess.run([sys.executable, "-c", program], capture_output=True, text=True, check=True)
        self.assertEqual((run.stdout.strip(), run.stderr), ("['pinscores', 'pinscores.scores']", ""))

    def test_nothing_is_printed(self):
        out, err = io.StringIO(), io.StringIO()
        with contextlib.redirect_stdout(out), contextlib.redirect_stderr(err):
            for name, arguments, length in CALLS:
                answer_of(name, arguments)
        self.assertEqual((out.getvalue(), err.getvalue()), ("", ""))


if __name__ == "__main__":
    unittest.main()
