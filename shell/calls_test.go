package shell_test

import (
	"fmt"
	"strconv"
	"strings"
	"testing"

	"touchstone/api"
)

// P15.2: exit without an operand ends the run by the status, with one by that number.
func TestExit(t *testing.T) {
	checkSame(t,
		row{"exit", 0, "", ""}, row{"exit; echo", 0, "", ""}, row{"echo a; exit; echo b", 0, "a,", ""}, row{"false; exit; echo", 1, "", ""}, row{"nix; exit", 127, "", "nix: not found,"}, row{"test a b; exit; :", 2, "", "test: usage,"}, row{"false; x=a; exit", 0, "", ""}, row{"! true; exit", 1, "", ""}, row{"false; exit $u; echo", 1, "", ""},
		row{"exit 0", 0, "", ""}, row{"false; exit 0; echo", 0, "", ""}, row{"exit 1; echo", 1, "", ""}, row{"exit 255; echo", 255, "", ""}, row{"false; exit $?; echo", 1, "", ""}, row{"nix; exit $?; echo", 127, "", "nix: not found,"}, row{"exit $#; echo", 3, "", ""}, row{"x=' 12 '; exit $x; echo", 12, "", ""}, row{"exit $u 7 $u; echo", 7, "", ""}, row{"exit '8'; echo", 8, "", ""}, row{"exit 1\"2\"$#; echo", 123, "", ""},
		row{"exit 256; echo $?", 0, "2,", "exit: usage,"}, row{"exit 01; echo $?", 0, "2,", "exit: usage,"}, row{"exit -1; echo $?", 0, "2,", "exit: usage,"}, row{"exit a; echo $?", 0, "2,", "exit: usage,"}, row{"exit 1 2; echo $?", 0, "2,", "exit: usage,"}, row{"exit 256", 2, "", "exit: usage,"}, row{"exit '' || echo $?", 0, "2,", "exit: usage,"}, row{"exit \"$u\"; echo $?", 0, "2,", "exit: usage,"},
		row{"exit 3 3; exit a; exit; echo", 2, "", "exit: usage,exit: usage,"}, row{"! exit a; echo $?", 0, "0,", "exit: usage,"}, row{"if exit a; then echo a; else echo $?; fi", 0, "2,", "exit: usage,"}, row{"x='1 2'; exit $x; echo $?", 0, "2,", "exit: usage,"}, row{"x='1 2'; exit \"$x\"; echo $?", 0, "2,", "exit: usage,"}, row{"exit -- 1; echo $?", 0, "2,", "exit: usage,"},
	)
}

// P15.2: each number as exit's operand: from 0 to 255 it ends the run.
func TestExitByEachNumber(t *testing.T) {
	c := parsed(t, "exit $1; echo $?")
	for n := -300; n <= 600; n++ {
		want := outcome{0, "2\n", "exit: usage\n", "d0:", api.OK}
		if n >= 0 && n <= 255 {
			want = outcome{code: n, tree: "d0:"}
		}
		if got := runs(c, nodeOf(t), enough, strconv.Itoa(n)); got != want {
			t.Errorf("exit %d: %v; want %v", n, got, want)
		}
	}
}

// P15.2, R7: texts that are no numbers from 0 to 255.
func TestExitByOtherTexts(t *testing.T) {
	c := parsed(t, "false; exit \"$1\"; echo $?")
	want := outcome{0, "2\n", "exit: usage\n", "d0:", api.OK}
	check := func(text string) {
		t.Helper()
		if got := runs(c, nodeOf(t), enough, text); got != want {
			t.Errorf("exit %q: %v; want %v", text, got, want)
		}
	}
	for _, text := range list("", " ", "-", "+", "--", "-e", "00", "01", "000", "007", "0255", "-0", "+0", "+1", "-00", "-01", "--1", "- 1", " 1", "1 ", "1\n", "\t1", "1 2", "1,0", "1_0", "0x1", "0b1", "0o7", "1e0", "1.0", "1.", ".1", "a", "1a", "a1", "0a", "$?", "١", "１", "\x00", "1\x00", "\x001", "\xff",
		"1000", "9223372036854775807", "9223372036854775808", "-9223372036854775808", "18446744073709551616", "18446744073709551617", "4294967296", "4294967297", strings.Repeat("1", 1000), strings.Repeat("0", 1000), strings.Repeat("0", 1000)+"1") {
		check(text)
	}
	for b := range 256 {
		one := string([]byte{byte(b)})
		if b < '0' || b > '9' {
			check(one)
			check(one + "1")
			check("1" + one)
			check("1" + one + "1")
		}
	}
}

// P15.2: set with the one operand -e or +e; all others are usage, and change nothing of what was asked for.
func TestSet(t *testing.T) {
	checkSame(t,
		row{"set -e", 0, "", ""}, row{"set +e", 0, "", ""}, row{"false; set -e; echo $?", 0, "0,", ""}, row{"false; set +e; echo $?", 0, "0,", ""}, row{"set -e; false; echo", 1, "", ""}, row{"set +e; false; echo $?", 0, "1,", ""}, row{"set -e; set -e; false; echo", 1, "", ""}, row{"set -e; set +e; false; echo $?", 0, "1,", ""}, row{"set +e; set -e; false; echo", 1, "", ""}, row{"set -e; set +e; set -e; nix; echo", 127, "", "nix: not found,"}, row{"set $u -e; false; echo", 1, "", ""},
		row{"set; echo $?", 0, "2,", "set: usage,"}, row{"set", 2, "", "set: usage,"}, row{"set $u", 2, "", "set: usage,"}, row{"set && echo", 2, "", "set: usage,"}, row{"set a || echo $?", 0, "2,", "set: usage,"},
	)
	for _, operands := range list("", "''", "e", "-", "+", "--", "-e ''", "'' -e", "-e -e", "-e +e", "+e -e", "+e +e", "-e a", "a -e", "-- -e", "-x", "+x", "-ee", "-ex", "-xe", "+ee", "--e", "++e", "-+e", "'-e '", "' -e'", "-E", "+E", "-o errexit", "a", "a b c") {
		checkSame(t,
			row{"set " + operands + "; echo $?; false; echo $?", 0, "2,1,", "set: usage,"},
			row{"set -e; set " + operands + " || echo $?; false; echo no", 1, "2,", "set: usage,"},
			row{"set -e; set " + operands + "; echo no", 2, "", "set: usage,"},
		)
	}
}

// P15.2: the status, a variable's value and the arguments, read behind each sort of command.
func TestReadBehindEach(t *testing.T) {
	for command, status := range map[string]int{
		":": 0, "false": 1, "nix": 127, "y=a": 0, "y=a$1": 1, "$u": 0, "exit a": 2, "set -x": 2, "set +e": 0, "! :": 1, "! nix": 0, "nix && :": 127, ": && false": 1, "nix || :": 0, ": || nix": 0, "{ nix; false; }": 1,
		"if nix; then :; fi": 0, "if :; then nix; fi": 127, "if nix; then :; else false; fi": 1, "while nix; do :; done": 0, "y=a; while test $y; do y=; nix; done": 127, "until :; do nix; done": 0, "y=; until test $y; do y=a; nix; done": 127, "for f in; do nix; done": 0, "for f in a; do nix; done": 127, "for f in a a$1; do nix; done": 1, "test a b": 2, "test": 1, "'[' a ]": 0, "\\[": 2, "mkdir /": 1,
	} {
		for _, x := range list("", "a", "a  b") {
			c := parsed(t, fmt.Sprintf("nix; x='%s'; %s\necho \"$?<$x>$2$#\"", x, command))
			got := runs(c, nodeOf(t), enough, arguments()...)
			if want := fmt.Sprintf("%d<%s>two3\n", status, x); got.out != want || got.code != 0 || got.e != api.OK {
				t.Errorf("behind %q: %v; want %q", command, got, want)
			}
		}
	}
}
