package shell_test

import (
	"fmt"
	"math/rand"
	"strings"
	"testing"

	"touchstone/api"
	"touchstone/ftree"
	"touchstone/shell"
)

// P15.3: a Seq of commands without parameters, exit and set comes to what its commands come to by themselves, put
// together: over the tree then, texts one behind the other, the last one's code.
func TestSeqOfItsParts(t *testing.T) {
	g := &grower{Rand: rand.New(rand.NewSource(153)), plain: true}
	ended := 0
	for range 6000 {
		root := g.someTree(t)
		want, tree := outcome{}, root
		seq := of(api.Seq)
		for range 2 + g.Intn(3) {
			c := parsed(t, g.command(1+g.Intn(4)))
			seq.Kids = append(seq.Kids, c)
			r, e := shell.Run(c, tree, api.Env{}, 300)
			if e != api.OK {
				want.e = e
				break
			}
			want.code, want.out, want.err, tree = r.Code, want.out+r.Out, want.err+r.Err, r.Tree
		}
		if len(seq.Kids) < 2 || want.e == api.ErrFuel || !ftree.May(tree) {
			continue
		}
		want.tree = textOf(tree)
		if want.e == api.ErrTooLarge || len(want.out)+len(want.err) > api.MaxOut {
			want = refusedBy(api.ErrTooLarge)
		}
		if got := runs(seq, root, 1500); got != want {
			t.Fatalf("%v over %s: %v; want %v", seq, textOf(root), got, want)
		}
		ended++
	}
	if ended < 3000 {
		t.Errorf("%d runs alone ended", ended)
	}
}

// statusOf is a command whose status is that one, and what it complains of.
func statusOf(status string) (command, err string) {
	switch status {
	case "0":
		return "true", ""
	case "1":
		return "false", ""
	case "2":
		return "test a b", "test: usage\n"
	}
	return "nix", "nix: not found\n"
}

// P15.3: the others run with the variables and the status then: what is put ahead of them gives them the same ones.
func TestSeqWithVariables(t *testing.T) {
	g := &grower{Rand: rand.New(rand.NewSource(1533))}
	ended := 0
	for range 8000 {
		first, second := g.command(1+g.Intn(4)), g.command(1+g.Intn(4))
		if strings.Contains(first+second, "set") || strings.Contains(first, "exit") {
			continue
		}
		root, args := g.someTree(t), []string{"a b", "c"}
		alone, e := shell.Run(parsed(t, first), root, api.Env{Args: args}, 300)
		told := runs(parsed(t, first+"\necho \"$?;$x;$y;$z;$f\""), root, 301, args...)
		if e != api.OK || told.e != api.OK || !ftree.May(alone.Tree) {
			continue
		}
		values := strings.Split(strings.TrimSuffix(strings.TrimPrefix(told.out, alone.Out), "\n"), ";")
		if len(values) != 5 || fmt.Sprint(alone.Code) != values[0] {
			t.Fatalf("%s: code %d, then %q", first, alone.Code, told.out)
		}
		ahead, err := statusOf(values[0])
		ahead = fmt.Sprintf("x='%s'; y='%s'; z='%s'; f='%s'; %s", values[1], values[2], values[3], values[4], ahead)
		want := runs(parsed(t, ahead+"\n"+second), alone.Tree, 300, args...)
		got := runs(parsed(t, first+"\n"+second), root, 600, args...)
		if want.e != api.OK || got.e != api.OK {
			continue
		}
		want.out, want.err = alone.Out+want.out, alone.Err+strings.TrimPrefix(want.err, err)
		if got != want {
			t.Fatalf("%s\n%s: %v; want %v", first, second, got, want)
		}
		ended++
	}
	if ended < 3000 {
		t.Errorf("%d runs alone ended", ended)
	}
}

// P15.3: a Seq in a Seq is as its Kids in their place.
func TestSeqInSeq(t *testing.T) {
	g := &grower{Rand: rand.New(rand.NewSource(1530))}
	for range 3000 {
		var kids []api.Cmd
		for range 4 {
			kids = append(kids, parsed(t, g.command(1+g.Intn(3))))
		}
		root, args := g.someTree(t), g.someArgs()
		want := runs(of(api.Seq, kids...), root, 300, args...)
		for _, c := range []api.Cmd{of(api.Seq, of(api.Seq, kids[:2]...), kids[2], kids[3]), of(api.Seq, kids[0], of(api.Seq, kids[1:]...)), of(api.Seq, of(api.Seq, kids[:2]...), of(api.Seq, kids[2:]...)), of(api.Seq, kids[0], of(api.Seq, kids[1], of(api.Seq, kids[2:]...)))} {
			if got := runs(c, root, 300, args...); got != want {
				t.Fatalf("%v: %v; want %v", c, got, want)
			}
		}
	}
}

// P15.4: more fuel changes nothing of a run that ended, and of one that was too large; with less than it takes no run ends.
func TestMoreFuel(t *testing.T) {
	g := &grower{Rand: rand.New(rand.NewSource(154))}
	ended, without := 0, 0
	for range 3000 {
		c := parsed(t, g.command(1+g.Intn(6)))
		root, args := g.someTree(t), g.someArgs()
		before := refusedBy(api.ErrFuel)
		for fuel := range 60 {
			got := runs(c, root, fuel, args...)
			if before.e != api.ErrFuel && got != before {
				t.Fatalf("%v: %v; with fuel %d %v", c, before, fuel, got)
			}
			before = got
		}
		if before.e == api.ErrFuel {
			without++
			continue
		}
		ended++
		for _, fuel := range []int{61, 100, 1000, api.MaxFuel, 1 << 40} {
			if got := runs(c, root, fuel, args...); got != before {
				t.Fatalf("%v: %v; with fuel %d %v", c, before, fuel, got)
			}
		}
	}
	if ended < 1000 || without < 50 {
		t.Errorf("%d runs ended, %d did not", ended, without)
	}
}

// P15.5: behind set -e a simple command whose status is not 0 ends the run by it; behind ! , or with || true behind it,
// it does not: also of many random ones.
func TestSetEOfMany(t *testing.T) {
	g := &grower{Rand: rand.New(rand.NewSource(155)), plain: true}
	failed := 0
	for range 5000 {
		script, root := g.simple(), g.someTree(t)
		alone := runs(parsed(t, script), root, enough)
		if alone.code == 0 {
			continue
		}
		failed++
		if got := runs(parsed(t, "set -e; "+script+"\nmkdir no; nix; exit 9"), root, enough); got != alone {
			t.Fatalf("%s: %v; want %v", script, got, alone)
		}
		for _, on := range list("! "+script, script+" || true", "if "+script+"; then :; fi", "while "+script+"; do :; done", "{ "+script+"; echo; } && false; true", "until "+script+"; do exit 5; done") {
			got := runs(parsed(t, "set -e\n"+on+"\nexit 5"), root, enough)
			want := alone
			want.code = 5
			if strings.Contains(on, "echo") {
				want.out += "\n"
			}
			if strings.Contains(on, "false; true") {
				want.code = 1 // the false behind && is looked at
			}
			if got != want {
				t.Fatalf("%s: %v; want %v", on, got, want)
			}
		}
	}
	if failed < 1500 {
		t.Errorf("%d commands alone failed", failed)
	}
}

// turned is a command of which some conditions have a ! more ahead, and what hangs on them is turned about.
func (g *grower) turned(c api.Cmd) api.Cmd {
	kids := make([]api.Cmd, len(c.Kids))
	for i, kid := range c.Kids {
		kids[i] = g.turned(kid)
	}
	turnedOnce := func() { kids[0] = of(api.Not, kids[0]) }
	switch how := g.Intn(3); {
	case how == 0:
	case c.Kind == api.If && how == 1 && len(kids) == 3:
		turnedOnce()
		kids[1], kids[2] = kids[2], kids[1]
	case c.Kind == api.While && how == 1:
		turnedOnce()
		c.Kind = api.Until
	case c.Kind == api.Until && how == 1:
		turnedOnce()
		c.Kind = api.While
	case c.Kind == api.If || c.Kind == api.While || c.Kind == api.Until:
		turnedOnce()
		turnedOnce()
	}
	c.Kids = kids
	return c
}

// P15.6: the same runs, whatever is turned about, with each fuel.
func TestTurned(t *testing.T) {
	g := &grower{Rand: rand.New(rand.NewSource(156)), plain: true}
	turned, errors := 0, map[api.Errno]int{}
	for range 6000 {
		c := parsed(t, g.command(2+g.Intn(5)))
		other := g.turned(c)
		if fmt.Sprint(c) != fmt.Sprint(other) {
			turned++
		}
		for range 4 {
			root := g.someTree(t)
			for _, fuel := range []int{g.Intn(12), 200} {
				want := runs(c, root, fuel)
				if got := runs(other, root, fuel); got != want {
					t.Fatalf("%v: %v; turned about, %v: %v", c, want, other, got)
				}
				errors[want.e]++
			}
		}
	}
	if turned < 1500 || errors[api.OK] < 10000 || errors[api.ErrFuel] < 500 {
		t.Errorf("%d commands were turned about; errors: %v", turned, errors)
	}
}

// P15.6: by hand, over trees of each sort.
func TestTurnedByHand(t *testing.T) {
	for _, pair := range [][2]string{
		{"if test -e a; then mkdir b; else mkdir a; fi", "if ! test -e a; then mkdir a; else mkdir b; fi"}, {"if nix; then echo a; else echo b; fi", "if ! nix; then echo b; else echo a; fi"}, {"if mkdir a; then nix; else false; fi", "if ! ! mkdir a; then nix; else false; fi"}, {"if mkdir a; then false; fi", "if ! ! mkdir a; then false; fi"},
		{"while rm -r a; do mkdir b; done", "until ! rm -r a; do mkdir b; done"}, {"until mkdir a; do rm -r a; done", "while ! mkdir a; do rm -r a; done"}, {"until mkdir a b; do rm -rf a b; nix; done", "while ! mkdir a b; do rm -rf a b; nix; done"}, {"while mkdir a; do false; done", "while ! ! mkdir a; do false; done"}, {"until nix || touch a; do echo a; done", "until ! ! { nix || touch a; }; do echo a; done"}, {"until nix; do :; done", "while ! nix; do :; done"},
	} {
		for _, root := range samples(t) {
			for _, fuel := range []int{0, 1, 2, 3, 4, 5, 50} {
				a, b := runs(parsed(t, pair[0]), root, fuel), runs(parsed(t, pair[1]), root, fuel)
				if a != b {
					t.Errorf("%q: %v; %q: %v", pair[0], a, pair[1], b)
				}
			}
		}
	}
}
