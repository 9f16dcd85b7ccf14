package shell_test

import (
	"fmt"
	"math"
	"slices"
	"strings"
	"testing"

	"touchstone/api"
	"touchstone/ftree"
	"touchstone/shell"
	"touchstone/syntax"
)

// word is a word of bytes that are not quoted.
func word(text string) api.Word { return api.Word{Parts: []api.Part{{Text: text}}} }

// call is a simple command.
func call(words ...string) api.Cmd {
	c := api.Cmd{Kind: api.Simple}
	for _, w := range words {
		c.Words = append(c.Words, word(w))
	}
	return c
}

// of is a command of a Kind, and of Kids.
func of(kind uint8, kids ...api.Cmd) api.Cmd { return api.Cmd{Kind: kind, Kids: kids} }

// nested is a command of such a depth.
func nested(depth int) api.Cmd {
	c := call("echo", "a")
	for range depth - 1 {
		c = of(api.Not, c)
	}
	return c
}

// wrongCommands are commands that may not be.
func wrongCommands() []api.Cmd {
	yes := call("true")
	itself := of(api.Seq, yes, yes)
	itself.Kids[1].Kids = itself.Kids
	itself.Kids[1].Kind = api.Seq
	itself.Kids[1].Words = nil
	return []api.Cmd{
		{Kind: api.None, Name: "x"}, {Kind: api.None, Words: []api.Word{word("a")}}, of(api.None, yes), {Kind: api.For + 1}, of(api.For+1, yes), {Kind: 255}, of(128, yes, yes),
		{Kind: api.Simple}, {Kind: api.Simple, Name: "x"}, {Kind: api.Simple, Name: "x", Words: []api.Word{word("a"), word("b")}}, {Kind: api.Simple, Name: "1", Words: []api.Word{word("a")}}, {Kind: api.Simple, Name: "?", Words: []api.Word{word("a")}}, {Kind: api.Simple, Name: strings.Repeat("n", api.MaxName+1), Words: []api.Word{word("a")}}, {Kind: api.Simple, Name: "x", Words: []api.Word{word("*")}},
		call("if"), call("x=a"), call("a b"), call("a", ""), call("a", "*"), call("a", "\x00"), call(slices.Repeat(list("a"), api.MaxArgs+1)...), {Kind: api.Simple, Words: []api.Word{{}}}, {Kind: api.Simple, Words: []api.Word{{Parts: []api.Part{{Var: true}}}}}, {Kind: api.Simple, Words: call("a").Words, Kids: []api.Cmd{yes}},
		of(api.Not), of(api.Not, yes, yes), of(api.Not, api.Cmd{}), of(api.And, yes), of(api.And, yes, yes, yes), of(api.And, yes, api.Cmd{}), of(api.Or), of(api.Or, yes), of(api.Or, yes, call()), of(api.Seq), of(api.Seq, yes), of(api.Seq, yes, api.Cmd{}), of(api.Seq, yes, of(api.Seq)),
		of(api.If), of(api.If, yes), of(api.If, yes, yes, yes, yes), of(api.If, yes, yes, api.Cmd{}), of(api.While), of(api.While, yes), of(api.While, yes, yes, yes), of(api.Until, yes), of(api.Until, api.Cmd{}, yes), of(api.For, yes), {Kind: api.For, Name: "f"}, {Kind: api.For, Name: "1", Kids: []api.Cmd{yes}}, {Kind: api.For, Name: "f", Kids: []api.Cmd{yes, yes}}, {Kind: api.For, Name: "f", Words: []api.Word{word("a*")}, Kids: []api.Cmd{yes}}, {Kind: api.For, Name: "f", Words: call(slices.Repeat(list("a"), api.MaxArgs+1)...).Words, Kids: []api.Cmd{yes}}, {Kind: api.Not, Name: "x", Kids: []api.Cmd{yes}}, {Kind: api.While, Words: []api.Word{word("a")}, Kids: []api.Cmd{yes, yes}},
		nested(api.MaxNest + 1), of(api.Seq, yes, nested(api.MaxNest)), itself,
	}
}

// chain is a tree with so many directories below one another.
func chain(depth int) api.Node {
	n := api.Node{Kind: api.Dir}
	for range depth {
		n = api.Node{Kind: api.Dir, Names: list("d"), Kids: []api.Node{n}}
	}
	return n
}

// flat is a tree of so many nodes.
func flat(nodes int) api.Node {
	n := api.Node{Kind: api.Dir}
	for i := range nodes - 1 {
		n.Names, n.Kids = append(n.Names, fmt.Sprintf("n%04d", i)), append(n.Kids, api.Node{Kind: api.File})
	}
	return n
}

// wrongTrees are nodes that are no trees.
func wrongTrees() []api.Node {
	file := api.Node{Kind: api.File}
	itself := api.Node{Kind: api.Dir, Names: list("a"), Kids: []api.Node{file}}
	itself.Kids[0] = itself
	return []api.Node{
		{}, file, {Kind: api.File, Text: "x"}, {Kind: api.Link, Text: "x"}, {Kind: 4}, {Kind: 255}, {Kind: api.Dir, Text: "x"}, {Kind: api.Dir, Names: list("a")}, {Kind: api.Dir, Kids: []api.Node{file}}, {Kind: api.Dir, Names: list("b", "a"), Kids: []api.Node{file, file}}, {Kind: api.Dir, Names: list("a", "a"), Kids: []api.Node{file, file}}, {Kind: api.Dir, Names: list(".."), Kids: []api.Node{file}}, {Kind: api.Dir, Names: list(""), Kids: []api.Node{file}}, {Kind: api.Dir, Names: list("a/b"), Kids: []api.Node{file}},
		{Kind: api.Dir, Names: list("a"), Kids: []api.Node{{}}}, {Kind: api.Dir, Names: list("a"), Kids: []api.Node{{Kind: api.Link}}}, {Kind: api.Dir, Names: list("a"), Kids: []api.Node{{Kind: api.File, Text: "\x00"}}}, {Kind: api.Dir, Names: list("a"), Kids: []api.Node{{Kind: api.File, Text: strings.Repeat("x", api.MaxText+1)}}}, {Kind: api.Dir, Names: list("a"), Kids: []api.Node{{Kind: api.File, Names: list("a"), Kids: []api.Node{file}}}},
		chain(api.MaxDepth + 1), flat(api.MaxNodes + 1), itself,
	}
}

// P15.2: the errors of Run, in their order, whatever else is wrong; where there is one, all else is zero.
func TestErrorsInTheirOrder(t *testing.T) {
	large := strings.Repeat("a", api.MaxValue+1)
	fuels := []int{-1, math.MinInt, 0, 1, enough, math.MaxInt}
	args := [][]string{nil, {}, {"a"}, {large}, {"a", large}, {"a", large, "b"}, append(slices.Repeat(list("a"), 20), large), {strings.Repeat(large, 100)}}
	loops := parsed(t, "while true; do :; done")
	check := func(c api.Cmd, root api.Node, wrong bool) {
		t.Helper()
		for _, fuel := range fuels {
			for i, l := range args {
				want := api.OK
				switch {
				case wrong:
					want = api.ErrForm
				case fuel < 0 || i > 2:
					want = api.ErrArg
				case fuel == 0:
					want = api.ErrFuel
				case fuel > 1 && c.Kind == api.While:
					continue
				case c.Kind == api.While:
					want = api.ErrFuel
				}
				if got := runs(c, root, fuel, l...); got.e != want || want != api.OK && got != refusedBy(want) {
					t.Errorf("a command of Kind %d, fuel %d, arguments %d: %v; want %d", c.Kind, fuel, i, got, want)
				}
			}
		}
	}
	nothing := nodeOf(t)
	check(call("true"), nothing, false)
	check(loops, nothing, false)
	for _, c := range wrongCommands() {
		check(c, nothing, true)
	}
	for _, root := range wrongTrees() {
		check(call("true"), root, true)
		check(loops, root, true)
		check(call(), root, true)
	}
}

// P15.2: commands, trees and arguments that are just as large as they may be.
func TestAtTheLimits(t *testing.T) {
	for _, root := range []api.Node{chain(api.MaxDepth), flat(api.MaxNodes), flat(api.MaxNodes - 1)} {
		want := outcome{code: 1, out: "a\n", tree: textOf(root)}
		if got := runs(nested(api.MaxNest), root, 1); got != want {
			t.Errorf("the deepest command: %v; want %v", got, want)
		}
		want = outcome{out: strings.TrimSuffix(strings.Repeat("a ", api.MaxArgs-1), " ") + "\n", tree: textOf(root)}
		if got := runs(call(append(list("echo"), slices.Repeat(list("a"), api.MaxArgs-1)...)...), root, 1); got != want {
			t.Errorf("the most words: %v; want %v", got, want)
		}
	}
	args := slices.Repeat(list(strings.Repeat("v", api.MaxValue)), 200)
	if got := runs(parsed(t, "test \"$9\" = $1 && x=$9 && echo $#"), nodeOf(t), enough, args...); got != (outcome{out: "200\n", tree: "d0:"}) {
		t.Errorf("the largest arguments: %v", got)
	}
	if got := runs(parsed(t, "echo \"<$1>\" $#"), nodeOf(t), enough, "\x00\n\xff"); got.out != "<\x00\n\xff> 1\n" {
		t.Errorf("an argument of any bytes: %v", got)
	}
}

// P15.2: how large a tree is then is not asked.
func TestTreesThatGrow(t *testing.T) {
	for script, root := range map[string]api.Node{"mkdir x; touch y z": flat(api.MaxNodes), "mkdir x; mv d x; mv x d": chain(api.MaxDepth)} {
		tree := newTree(t, root)
		for _, line := range strings.Split(script, "; ") {
			utility(tree, strings.Fields(line)...)
		}
		want := outcome{tree: textOf(tree.Root())}
		if got := runs(parsed(t, script), root, enough); got != want || ftree.May(tree.Root()) {
			t.Errorf("%s: %v; want %v", script, got, want)
		}
	}
	doubled := func(times int) string {
		script := "mkdir a; for f in"
		for i := range times {
			script += fmt.Sprintf(" %d", i)
		}
		return script + "; do cp -r a b; mv b a/$f; done"
	}
	r, e := shell.Run(parsed(t, doubled(13)), nodeOf(t), api.Env{}, enough)
	if nodes := ftree.Nodes(r.Tree); e != api.OK || nodes != 1<<13+1 || !ftree.Well(r.Tree) {
		t.Errorf("doubled 13 times: %d nodes, error %d", nodes, e)
	}
	// A tree that is not told takes no room.
	if got := runs(parsed(t, doubled(60)+"; test -d a/59/58/7 && rm -r a && echo $?"), nodeOf(t), enough); got != (outcome{out: "0\n", tree: "d0:"}) {
		t.Errorf("doubled 60 times, and taken away: %v", got)
	}
	if got := runs(parsed(t, doubled(60)+"; while :; do :; done"), nodeOf(t), enough); got != refusedBy(api.ErrFuel) {
		t.Errorf("doubled 60 times, without end: %v", got)
	}
}

// R1: whatever a command is made of, a run ends without a panic.
func TestAnyCommand(t *testing.T) {
	counts := map[api.Errno]int{}
	var all []api.Cmd
	for kind := range uint8(12) {
		for kids := range 4 {
			for _, name := range list("", "x", "1") {
				for words := range 3 {
					c := of(kind, slices.Repeat([]api.Cmd{call("true")}, kids)...)
					c.Name, c.Words = name, call("a", "b").Words[:words]
					all = append(all, c)
				}
			}
		}
	}
	for _, c := range all {
		for _, around := range []api.Cmd{c, of(api.Not, c), of(api.Seq, c, c)} {
			got := runs(around, nodeOf(t), 50)
			counts[got.e]++
			if (got.e == api.ErrForm) == syntax.May(around) || got.e != api.OK && got != refusedBy(got.e) {
				t.Errorf("%v: %v", around, got)
			}
		}
	}
	if counts[api.OK] < 20 || counts[api.ErrForm] < 100 || counts[api.ErrFuel] == 0 || len(counts) != 3 {
		t.Errorf("errors: %v", counts)
	}
}
