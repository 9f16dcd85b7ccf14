package shell_test

import (
	"strings"
	"testing"

	"touchstone/api"
)

// checkEnds checks that behind set -e a script ends the run by that code, and that without it the run goes on.
func checkEnds(t *testing.T, root api.Node, script string, code int) {
	t.Helper()
	without := runs(parsed(t, script+"\necho on"), root, enough, arguments()...)
	if without.code != 0 || without.e != api.OK {
		t.Errorf("%q without set -e: %v", script, without)
	}
	for _, ahead := range list("set -e; ", "false; set +e; set -e; ", "! set -e; ", "if set -e; then :; fi; ") {
		got := runs(parsed(t, ahead+script+"\necho on"), root, enough, arguments()...)
		if got.code != code || got.e != api.OK || !strings.HasPrefix(without.out, got.out) || strings.Contains(got.out, "no") || strings.Contains(got.out, "on") {
			t.Errorf("%s%q: %v; want code %d", ahead, script, got, code)
		}
	}
}

// checkGoesOn checks that behind set -e a script goes on, with that status, as it does without it.
func checkGoesOn(t *testing.T, root api.Node, script string, status string) {
	t.Helper()
	script += "\necho \"$?\" on"
	without := runs(parsed(t, script), root, enough, arguments()...)
	got := runs(parsed(t, "set -e\n"+script), root, enough, arguments()...)
	last := status + " on\n"
	if got != without || got.code != 0 || got.e != api.OK || !strings.HasSuffix(got.out, last) {
		t.Errorf("%q: %v; without set -e %v; want status %s", script, got, without, status)
	}
}

// P15.2, P15.5: each place where a command is looked at, with what fails there.
func TestLookedAt(t *testing.T) {
	for command, code := range map[string]int{
		"false": 1, "nix": 127, "test a b": 2, "test": 1, "rmdir d": 1, "mkdir": 2, "x=a$1": 1, "x=$1$1": 1, "exit a": 2, "exit 1 2": 2, "set": 2, "set -x": 2, "''": 127, "$2": 127, "ls": 127,
	} {
		for _, place := range list("", "true; ", "echo a; ", "true && ", "false || ", "true && true && ", "false || true && ", "true && false || ", "{ false || false; } || ", "! ! false || ", "true && ! false && ") {
			checkEnds(t, nodeOf(t, "d/e="), place+command, code)
			checkEnds(t, nodeOf(t, "d/e="), place+"{ "+command+"; echo no; }", code)
		}
		for _, around := range [][2]string{
			{"{ ", "; }"}, {"{ echo a; ", "; echo no; }"}, {"{ { ", "; }; echo no; }"}, {"if true; then ", "; fi"}, {"if true; then ", "; echo no; fi"}, {"if false; then :; else ", "; fi"}, {"if false; then :; elif true; then ", "; fi"}, {"if false; then :; elif false; then :; else ", "; echo no; fi"}, {"if nix; then :; else ", "; fi"},
			{"until test $y; do y=a; ", "; done"}, {"while test \"$y\" != a; do y=a; ", "; echo no; done"}, {"for f in a b; do ", "; done"}, {"for f in a; do echo $f; ", "; echo no; done"}, {"true && { ", "; echo no; }"}, {"false || { true; ", "; }"}, {"true && if true; then ", "; fi"}, {"for f in a; do if true; then true && { ", "; }; fi; done"}, {"false || for f in a; do ", "; done"}, {"false || until test $y; do y=a; ", "; done"},
		} {
			checkEnds(t, nodeOf(t, "d/e="), around[0]+command+around[1], code)
		}
	}
}

// P15.2, P15.5: each place where a command is not looked at, and what is not a simple command.
func TestNotLookedAt(t *testing.T) {
	for script, status := range map[string]string{
		"! true": "1", "! false": "0", "! nix": "0", "! ! false": "1", "! ! nix": "1", "! { false; true; }": "1", "! { false; false; }": "0", "! { nix; echo a; }": "1", "! x=a$1": "0", "! exit a": "0", "! set": "0",
		"false && true": "1", "nix && true": "127", "false && false": "1", "true && false && true": "1", "true && nix && echo no": "127", "false && true && true": "1", "x=a$1 && true": "1", "set && true": "2",
		"false || true": "0", "nix || true": "0", "false || false || true": "0", "false || nix || :": "0", "false && nix || true": "0", "x=a$1 || true": "0", "exit a || true": "0", "true || false": "0", "test a b || echo $?": "0",
		"{ false; echo a; } && true": "0", "{ false; nix; } && true": "127", "{ false; echo a; } || nix": "0", "{ echo a; false; } || true": "0", "{ false || false; } || true": "0", "{ true && false; } && true": "1", "{ true && nix; } || true": "0", "! { true && false; }": "0", "! { false || false; }": "0",
		"if false; then :; fi": "0", "if nix; then :; fi": "0", "if false; nix; then :; fi": "0", "if false; true; then echo a; fi": "0", "if false; false; then :; else echo a; fi": "0", "if x=a$1; then :; fi": "0", "if false; then :; elif nix; then :; fi": "0", "if false; then :; elif nix; true; then echo a; fi": "0", "if true && false; then :; fi": "0", "if false || false; then :; fi": "0", "if ! { false; true; }; then :; fi": "0",
		"while false; do :; done": "0", "while nix; do :; done": "0", "while false; test \"$y\" != a; do y=a; done": "0", "while x=a$1; do :; done": "0", "until false; true; do :; done": "0", "until false; test $y; do y=a; done": "0", "until nix || test $y; do y=a; done": "0", "until x=a$1; test $y; do y=a; done": "0",
		"for f in; do false; done": "0", "for f in a b; do false && :; done": "1", "for f in a b; do ! true; done": "1", "for f in a b; do nix || :; done": "0", "until test $y; do y=a; ! true; done": "1", "until test $y; do y=a; false && :; done": "1", "if true; then ! true; fi": "1", "if true; then nix && :; fi": "127", "if false; then :; else ! :; fi": "1", "true && ! true": "1", "false || ! true": "1", "{ ! true; }": "1",
		"! if true; then false; echo a; fi": "1", "! if false; then :; else nix; fi": "0", "! for f in a b; do false; done": "0", "! while test \"$y\" != a; do y=a; false; done": "0", "! until test $y; do y=a; nix; done": "0", "for f in a; do false; nix; done || true": "0", "until test $y; do y=a; false; done && true": "1", "if if true; then false; fi; then :; fi": "0", "if for f in a b; do false; echo $f; done; then :; fi": "0", "while if true; then false; fi; do :; done": "0", "until { false; { nix; true && true; }; }; do :; done": "0",
		"if ! true && { false; true; }; then :; fi": "0", "! ! { false; true; }": "0", "{ { false; echo a; } && true; } && { echo b || false; }": "0",
		"for f in a$1; do echo no; done": "1", "for f in a$1 b c$1; do true; done": "1", "true && for f in a$1; do :; done": "1",
		"true": "0", "$u": "0", "x=a": "0", "set -e": "0", "echo": "0",
	} {
		checkGoesOn(t, nodeOf(t), script, status)
	}
}

// P15.2: what fails within what is not looked at doesn't end the run, also where it is deep within.
func TestNotLookedAtWithin(t *testing.T) {
	inner := "{ false; if true; then false; nix; fi; for f in a; do false; done; x=; until test $x; do false; x=a; false; done; { false; true && false; false; }; test a b; x=a$1; echo within; }"
	for script, out := range map[string]string{
		"! " + inner: "within\n1\n", inner + " && echo a": "within\na\n0\n", inner + " || echo a": "within\n0\n", "if " + inner + "; then echo a; fi": "within\na\n0\n", "y=; while " + inner + "; test \"$y\" != a; do y=a; done": "within\nwithin\n0\n", "until " + inner + "; do :; done": "within\n0\n",
		"if true; then " + inner + " && echo a; fi": "within\na\n0\n", "for g in a b; do ! " + inner + "; done": "within\nwithin\n1\n", "true && { ! ! " + inner + "; }": "within\n0\n", "{ " + inner + "; false; } || echo $?": "within\n1\n0\n",
	} {
		got := runs(parsed(t, "set -e\n"+script+"\necho $?"), nodeOf(t), enough, arguments()...)
		if got.out != out || got.code != 0 || got.e != api.OK {
			t.Errorf("%q: %v; want Out %q", script, got, out)
		}
		got = runs(parsed(t, "set -e\n"+inner+"\n"+script), nodeOf(t), enough, arguments()...)
		if want := (outcome{code: 1, tree: "d0:"}); got != want {
			t.Errorf("behind what is looked at, %q: %v; want %v", script, got, want)
		}
	}
}

// P15.2: set -e holds from where it stands on, wherever that is, until it is taken back.
func TestSetWhereItStands(t *testing.T) {
	checkSame(t,
		row{"false; set -e; echo a; false; echo b", 1, "a,", ""}, row{"nix; set -e", 0, "", "nix: not found,"}, row{"set -e; set +e; false; echo $?", 0, "1,", ""}, row{"set -e; false || set +e; false; echo $?", 0, "1,", ""}, row{"set -e; true && set +e; nix; echo $?", 0, "127,", "nix: not found,"}, row{"set -e; if set +e; then false; fi; echo $?", 0, "1,", ""},
		row{"if set -e; then false; echo no; fi; echo no", 1, "", ""}, row{"! set -e; echo $?; false; echo no", 1, "1,", ""}, row{"set -e && false; echo no", 1, "", ""}, row{"set -e || :; false; echo no", 1, "", ""}, row{"{ set -e; }; false; echo no", 1, "", ""}, row{"for f in -e; do set $f; false; echo no; done; echo no", 1, "", ""},
		row{"for f in -e +e -e; do set $f; echo $f; done; false; echo no", 1, "-e,+e,-e,", ""}, row{"for f in -e +e; do set $f; done; false; echo $?", 0, "1,", ""}, row{"! { set -e; false; echo a; }; echo $?; false; echo no", 1, "a,1,", ""}, row{"{ set -e; false; echo a; } && echo b; nix; echo no", 127, "a,b,", "nix: not found,"}, row{"while set -e; do false; done; echo no", 1, "", ""}, row{"until set +e; do :; done; false; echo $?", 0, "1,", ""},
		row{"set -e; x=set; $x +e; false; echo $?", 0, "1,", ""}, row{"set -e; ! set +e; echo $?; false; echo $?", 0, "1,1,", ""}, row{"set -e; set -x || set +e; false; echo $?", 0, "1,", "set: usage,"}, row{"if false; then set -e; fi; false; echo $?", 0, "1,", ""}, row{"false && set -e; false; echo $?", 0, "1,", ""},
		row{"set -e; for f in a$1 b; do echo $f; done; for f in a$1; do :; done; echo $?; x=a$1; echo no", 1, "b,1,", "f: too large,f: too large,x: too large,"}, row{"set -e; exit; echo", 0, "", ""}, row{"set -e; exit 3; echo", 3, "", ""}, row{"set -e; exit a; echo", 2, "", "exit: usage,"}, row{"set -e; ! true; exit", 1, "", ""}, row{"set -e; ! true", 1, "", ""}, row{"set -e; false && true", 1, "", ""}, row{"set -e; false || true", 0, "", ""},
	)
	checkRows(t, nodeOf(t, "a=x"), nodeOf(t, "a=x", "b/"), row{"set -e; mkdir b a; mkdir c", 1, "", "mkdir: a: there already,"}, row{"set -e; mkdir a || mkdir b; mkdir a; mkdir c", 1, "", "mkdir: a: there already,mkdir: a: there already,"}, row{"set -e; echo a; mkdir b; rm c; echo b", 1, "a,", "rm: c: not there,"})
}

// P15.5: a simple command of each sort whose status is not 0.
func TestFailedAlone(t *testing.T) {
	for command, code := range map[string]int{"false": 1, "nix": 127, "x=a$1": 1, "test": 1, "test a b": 2, "exit a": 2, "set a": 2, "rm a": 1, "rm": 2, "mkdir /": 1, "mv a": 2, "cp a b": 1, "ln a b": 2, "touch a/": 1, "rmdir f": 1, "\\[ a": 2, "$2": 127} {
		for _, root := range []api.Node{nodeOf(t, "f="), nodeOf(t, "f>f"), nodeOf(t, "f=x", "g/h=")} {
			alone := runs(parsed(t, command), root, enough, arguments()...)
			ends := runs(parsed(t, "set -e\n"+command+"\nmkdir no; echo no; exit 9"), root, enough, arguments()...)
			if alone.code != code || ends != alone {
				t.Errorf("%q: %v; behind set -e %v", command, alone, ends)
			}
			for script, last := range map[string]int{"! " + command: 0, command + " || true": 0, command + " && true": code} {
				want := alone
				want.code, want.out = last, want.out+"on\n"
				if got := runs(parsed(t, "set -e\n"+script+"\nx=$?; echo on; exit $x"), root, enough, arguments()...); got != want {
					t.Errorf("%q: %v; want %v", script, got, want)
				}
			}
		}
	}
}
