package shell_test

import (
	"math"
	"strings"
	"testing"

	"touchstone/api"
)

// checkSteps checks that a run takes so many steps: with fuel for them it comes to what it comes to with more, with less
// it did not end.
func checkSteps(t *testing.T, root api.Node, script string, steps int) {
	t.Helper()
	c := parsed(t, script)
	want := runs(c, root, steps, arguments()...)
	if want.e != api.OK {
		t.Errorf("%q with fuel %d: %v", script, steps, want)
	}
	for _, fuel := range []int{steps + 1, steps + 2, 2*steps + 9, api.MaxFuel, math.MaxInt} {
		if got := runs(c, root, fuel, arguments()...); got != want {
			t.Errorf("%q with fuel %d: %v; with %d %v", script, fuel, got, steps, want)
		}
	}
	for fuel := range steps {
		if got := runs(c, root, fuel, arguments()...); got != refusedBy(api.ErrFuel) {
			t.Errorf("%q with fuel %d: %v", script, fuel, got)
		}
	}
}

// P15.2, P15.4: each simple command, each assignment and each turn of a loop takes a step, and nothing else does.
func TestSteps(t *testing.T) {
	for script, steps := range map[string]int{
		"": 0, "x=a": 1, "x=a$1": 1, "$u": 1, ":": 1, "nix": 1, "test a b": 1, "echo a b c $1": 1, "exit": 1, "exit 3": 1, "exit a": 1, "set -e": 1, "set": 1, "exit; :": 1, "mkdir -p a/b c": 1,
		":; :": 2, "x=a; x=b; echo $x": 3, "{ :; :; }; :": 3, "! :": 1, "! ! :": 1, ": && :": 2, "false && :": 1, ": || :": 1, "false || :": 2, "false && : && :": 1, "false && : || :": 2,
		"if :; then :; fi": 2, "if false; then :; fi": 1, "if :; then :; else :; fi": 2, "if false; then :; else :; :; fi": 3, "if false; then :; elif :; then :; fi": 3,
		"while false; do :; done": 1, "until :; do :; done": 1, "until test $x; do x=a; done": 4, "while test \"$x\" != aaa; do x=a$x; done": 10, "until test $x; do if false; then :; fi; x=a; done": 5, "while exit; do :; done": 1, "while :; do exit; done": 3,
		"for f in; do :; done": 0, "for f in $u; do :; done": 0, "for f in a; do :; done": 2, "for f in a b c; do :; done": 6, "for f in a b; do for g in a b; do :; done; done": 10, "for f in a; do for g in; do :; done; done": 1, "for f in a b; do exit; done": 2,
		"for f in a$1; do :; done": 1, "for f in a$1 b; do :; done": 3, "for f in b a$1 b; do :; :; done": 7, "for f in a$1 a$1 a$1; do :; done": 3,
		"set -e; false; :": 2, "set -e; false || :; x=a$1; :": 4, "set -e; for f in a b; do false; done": 3,
	} {
		checkSteps(t, nodeOf(t), script, steps)
	}
}

// P15.2: runs that don't end, whatever the fuel.
func TestWithoutEnd(t *testing.T) {
	for _, script := range list("while true; do :; done", "until false; do :; done", "while :; do nix && :; done", "while ! false; do for f in; do :; done; done", "while for f in; do :; done; do for f in; do :; done; done", "while x=; do :; done", "until test a b; do set +e; done") {
		for _, fuel := range []int{0, 1, 2, 3, 4, 5, 20, 21, 22, 23, 100} {
			if got := runs(parsed(t, script), nodeOf(t), fuel, arguments()...); got != refusedBy(api.ErrFuel) {
				t.Errorf("%q, fuel %d: %v", script, fuel, got)
			}
		}
	}
}

// room is how many bytes a line has of 1024, with its end.
const room = 1024

// filling are scripts that write so many bytes into Out, or into Err, and the steps that they take.
func filling(bytes int) map[string]int {
	rest := bytes % room
	inOut, inErr := "", ""
	for range bytes / room {
		inOut += "echo \"$1\"; "
		inErr += "\"$2\"; "
	}
	if rest > 0 {
		inOut += "echo " + strings.Repeat("r", rest-1) + "; "
		inErr += "echo " + strings.Repeat("r", rest-1) + "; "
	}
	steps := (bytes + room - 1) / room
	return map[string]int{inOut + ":": steps + 1, inErr + ":": steps + 1}
}

// lines are arguments of which echo "$1" writes, and "$2" complains of, room bytes.
func lines() []string {
	return list(strings.Repeat("o", room-1), strings.Repeat("e", room-len(": not found\n")), strings.Repeat("w", api.MaxValue))
}

// P15.2: Out and Err have at most MaxOut bytes together; one more, by whatever writes, and the run did not end.
func TestMaxOut(t *testing.T) {
	for last, bytes := range map[string]int{
		"echo": 1, "echo abc": 4, "nix": 15, "mkdir": 13, "mkdir /": 24, "test a b": 12, "x=a$3": 13, "exit a": 12, "set": 11, "for f in a$3; do :; done": 13, "echo \"$1\"": room, "\"$2\"": room, "echo \"$1$1\"": 2*room - 1, "mkdir -p a/b \"$1\"": room + 18,
		"for f in a b; do echo $f; done": 4, "for f in a b; do nix; done": 30, "if nix; then :; fi": 15, "! nix": 15, "while nix; do :; done": 15, "{ echo a && nix; } || :": 17,
	} {
		for script := range filling(api.MaxOut - bytes) {
			got := runs(parsed(t, script+"; "+last), nodeOf(t), enough, lines()...)
			if got.e != api.OK || len(got.out)+len(got.err) != api.MaxOut {
				t.Fatalf("%q: %d bytes, error %d", last, len(got.out)+len(got.err), got.e)
			}
			if got := runs(parsed(t, script+"; "+last+" && exit 1; exit 2"), nodeOf(t), enough, lines()...); got.e != api.OK {
				t.Errorf("%q, then exit: %v", last, got)
			}
		}
		for script := range filling(api.MaxOut - bytes + 1) {
			for _, behind := range list("", "; exit", " || :", "; while :; do :; done") {
				if got := runs(parsed(t, script+"; "+last+behind), nodeOf(t), enough, lines()...); got != refusedBy(api.ErrTooLarge) {
					t.Errorf("%q and one byte more: %v", last+behind, got)
				}
			}
		}
	}
}

// P15.2: as soon as there are more bytes than there may be, the run did not end, whatever would come then.
func TestMaxOutAtOnce(t *testing.T) {
	words := strings.Repeat("$1", api.MaxOut/room)
	checkOut := func(script string, e api.Errno) {
		t.Helper()
		got := runs(parsed(t, script), nodeOf(t), enough, strings.Repeat("o", room))
		if got.e != e || e != api.OK && got != refusedBy(e) {
			t.Errorf("%.40q: %v; want error %d", script, got, e)
		}
	}
	checkOut("echo "+words, api.ErrTooLarge)
	checkOut("echo "+strings.TrimPrefix(words, "$1"), api.OK)
	checkOut("set -e; false; echo "+words, api.OK)
	checkOut("exit; echo "+words, api.OK)
	checkOut("exit 3 || echo "+words, api.OK)
	checkOut("mkdir "+words, api.ErrTooLarge)
	checkOut(words, api.ErrTooLarge)
	checkOut("! echo "+words, api.ErrTooLarge)
	checkOut("if echo "+words+"; then exit; fi", api.ErrTooLarge)
	checkOut("test "+words, api.OK)
	checkOut("x="+words+"; exit $"+"x", api.OK)
}

// P15.2: of ErrFuel and ErrTooLarge what comes first is told.
func TestFuelOrOut(t *testing.T) {
	full := api.MaxOut / room
	line := "echo \"$1\"; "
	for script, at := range map[string]int{ // at which step there are more bytes than there may be
		strings.Repeat(line, full+1): full + 1, strings.Repeat(line, full) + ":; :; nix": full + 3, strings.Repeat("\"$2\"; ", full) + "echo; :; :": full + 1, strings.Repeat(line+"\"$2\"; ", full): full + 1,
		"while true; do " + line + "done": 3*full + 3, "until false; do echo \"$1$1\"; done": 3*full/2 + 3, "while " + line + " :; do :; done": 4*full + 1, "for f in 1 2 3 4 5 6 7 8 9 10 11 12 13 14 15 16 17 18; do " + line + "done": 2*full + 2, "while true; do x=a$3; done": 3 * (api.MaxOut/len("x: too large\n") + 1), strings.Repeat(line, full) + ":; for f in a a$3; do :; done": full + 4,
	} {
		for fuel := max(at-5, 0); fuel < at+5; fuel++ {
			want := refusedBy(api.ErrTooLarge)
			if fuel < at {
				want = refusedBy(api.ErrFuel)
			}
			if got := runs(parsed(t, script), nodeOf(t), fuel, lines()...); got != want {
				t.Errorf("%.60q, fuel %d: %v; want %v", script, fuel, got, want)
			}
		}
	}
	for script, steps := range filling(api.MaxOut) {
		c := parsed(t, script)
		if got := runs(c, nodeOf(t), steps, lines()...); got.e != api.OK {
			t.Errorf("just as much as there may be: %v", got)
		}
		if got := runs(c, nodeOf(t), steps-1, lines()...); got != refusedBy(api.ErrFuel) {
			t.Errorf("just as much as there may be, a step less: %v", got)
		}
	}
}
