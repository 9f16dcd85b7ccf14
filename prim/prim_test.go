package prim_test

import (
	"slices"
	"strconv"
	"strings"
	"testing"

	"touchstone/api"
	"touchstone/ftree"
	"touchstone/prim"
)

// named is a node with its name in a directory.
type named struct {
	name string
	node api.Node
}

func file(text string) api.Node           { return api.Node{Kind: api.File, Text: text} }
func link(text string) api.Node           { return api.Node{Kind: api.Link, Text: text} }
func in(name string, node api.Node) named { return named{name, node} }
func place(names ...string) []string      { return names }

// dir is a directory, its names in whatever row they are handed in.
func dir(kids ...named) api.Node {
	slices.SortFunc(kids, func(a, b named) int { return strings.Compare(a.name, b.name) })
	n := api.Node{Kind: api.Dir}
	for _, kid := range kids {
		n.Names, n.Kids = append(n.Names, kid.name), append(n.Kids, kid.node)
	}
	return n
}

func treeOf(t *testing.T, n api.Node) *ftree.Tree {
	t.Helper()
	tree, e := ftree.New(n)
	if e != api.OK {
		t.Fatalf("New: %d", e)
	}
	return tree
}

// call is a call of the package. Those of one place have it as from.
type call struct {
	what     string
	from, to []string
	text     string
	deep     bool
}

// on is what a call answers over a file system.
func (c call) on(f ftree.FS) api.Errno {
	switch c.what {
	case "MakeDir":
		return prim.MakeDir(f, c.from)
	case "MakeFile":
		return prim.MakeFile(f, c.from, c.text)
	case "MakeLink":
		return prim.MakeLink(f, c.from, c.text)
	case "Touch":
		return prim.Touch(f, c.from)
	case "RemoveDir":
		return prim.RemoveDir(f, c.from)
	case "Unlink":
		return prim.Unlink(f, c.from)
	case "RemoveAll":
		return prim.RemoveAll(f, c.from)
	case "Rename":
		return prim.Rename(f, c.from, c.to)
	case "Copy":
		return prim.Copy(f, c.from, c.to, c.deep)
	}
	panic("no call " + c.what)
}

// ofTwo tells whether a call has two places.
func (c call) ofTwo() bool { return c.what == "Rename" || c.what == "Copy" }

// callsOfOne are the calls of one place, with texts that may be; callsOfTwo those of two.
func callsOfOne() []call {
	return []call{{what: "MakeDir"}, {what: "MakeFile", text: "new"}, {what: "MakeLink", text: "new"}, {what: "Touch"}, {what: "RemoveDir"}, {what: "Unlink"}, {what: "RemoveAll"}}
}

func callsOfTwo() []call {
	return []call{{what: "Rename"}, {what: "Copy"}, {what: "Copy", deep: true}}
}

// at is the call at other places.
func (c call) at(from, to []string) call {
	c.from, c.to = from, to
	return c
}

// sample has a node of each Kind in its root, and in a directory below it.
func sample() api.Node {
	low := dir(in("f", file("y")), in("l", link("f")), in("e", dir()), in("d", dir(in("f", file("")))))
	return dir(in("f", file("x")), in("l", link("d")), in("e", dir()), in("d", low), in("...", file("")))
}

// at is a place whose names stand between the / of a text.
func at(text string) []string {
	return strings.Split(text, "/")
}

// badNames are texts that are no names.
func badNames() []string {
	return place("", ".", "..", "a/b", "/", "z\n", "\n", "z\x00", "\x00f", strings.Repeat("n", api.MaxName+1))
}

// notTaken are places that may not be taken in the sample: below a file, a link (which is not followed), nothing; of
// names that are none.
func notTaken() [][]string {
	var all [][]string
	for _, text := range place("f/z", "f/f", "f/f/f", "l/f", "l/e", "l/z", "z/z", "z/z/z", "d/f/z", "d/l/z", "d/l/f", "d/z/f", "e/z/z", "d/d/f/f", "d/e/z/e") {
		all = append(all, at(text))
	}
	for _, name := range badNames() {
		all = append(all, place(name), place("d", name), place("d", "d", name), place("e", name), place("f", name), place("l", name), place("z", name), place(name, "f"), place("d", name, "f"), place(name, name))
	}
	return all
}

// taken are places of the sample that may be taken, at which nothing stands.
func taken() [][]string {
	longest := strings.Repeat("n", api.MaxName)
	return [][]string{at("z"), at("e/z"), at("d/z"), at("d/e/f"), at("d/d/d"), place(longest), place("d", longest), place("...z"), place("e", "..."), place(" "), place("d", "\xff"), place("e", "-"), place("\\"), place("d", "z\r")}
}

// The places of the sample at which something stands, by what does.
func files() [][]string { return [][]string{at("f"), at("..."), at("d/f"), at("d/d/f")} }
func links() [][]string { return [][]string{at("l"), at("d/l")} }
func empty() [][]string { return [][]string{at("e"), at("d/e")} }
func full() [][]string  { return [][]string{at("d"), at("d/d")} }
func root() [][]string  { return [][]string{nil} }

// node is the node that the sample has at a place.
func node(p []string) api.Node {
	n, _ := ftree.At(sample(), p)
	return n
}

// checkRefused checks that a call is refused at these places, and changes nothing.
func checkRefused(t *testing.T, c call, want api.Errno, lists ...[][]string) {
	t.Helper()
	for _, p := range slices.Concat(lists...) {
		tree := treeOf(t, sample())
		if got := c.at(p, c.to).on(tree); got != want {
			t.Errorf("%s(%q): %d; want %d", c.what, p, got, want)
		}
		if !ftree.Same(tree.Root(), sample()) {
			t.Errorf("%s(%q) is refused, and leaves %v", c.what, p, tree.Root())
		}
	}
}

// checkDone checks that behind a call at these places a node stands there (of Kind Absent: nothing), and else all is as
// it was.
func checkDone(t *testing.T, c call, want api.Node, lists ...[][]string) {
	t.Helper()
	for _, p := range slices.Concat(lists...) {
		tree := treeOf(t, sample())
		if e := c.at(p, nil).on(tree); e != api.OK {
			t.Errorf("%s(%q): %d", c.what, p, e)
		}
		flat := flatOf(sample())
		flat.set(p, want)
		checkFlat(t, c.at(p, nil), tree, flat)
	}
}

// The chapter's examples.
func TestExamples(t *testing.T) {
	root := dir(in("a", file("x")), in("d", dir(in("e", file("y")))))
	for _, x := range []struct {
		c    call
		want api.Errno
	}{
		{call{what: "MakeDir", from: at("a")}, api.ErrTwice},
		{call{what: "RemoveDir", from: at("d")}, api.ErrBusy},
		{call{what: "Rename", from: at("d"), to: at("d/x")}, api.ErrInto},
		{call{what: "Rename", from: at("a"), to: at("d")}, api.ErrKind},
		{call{what: "Copy", from: at("d"), to: at("q")}, api.ErrKind},
		{call{what: "MakeDir", from: at("q/r")}, api.ErrNone},
		{call{what: "RemoveAll"}, api.ErrBusy},
	} {
		tree := treeOf(t, root)
		if got := x.c.on(tree); got != x.want || !ftree.Same(tree.Root(), root) {
			t.Errorf("%v: %d, then %v; want %d", x.c, got, tree.Root(), x.want)
		}
	}
	tree := treeOf(t, root)
	if e := prim.Rename(tree, at("a"), at("b")); e != api.OK || !ftree.Same(tree.Root(), dir(in("b", file("x")), in("d", dir(in("e", file("y")))))) {
		t.Errorf("Rename(a, b): %d, then %v", e, tree.Root())
	}
}

// P10.1: MakeDir at each sort of place.
func TestMakeDir(t *testing.T) {
	c := call{what: "MakeDir"}
	checkDone(t, c, dir(), taken())
	checkRefused(t, c, api.ErrTwice, root(), files(), links(), empty(), full())
	checkRefused(t, c, api.ErrNone, notTaken())
}

// goodTexts are texts of files and links both, badTexts of neither.
func goodTexts() []string {
	return place("t", " ", "\n", "/", "..", "a/b", "\xff\x01", strings.Repeat("t", api.MaxText-1), strings.Repeat("t", api.MaxText))
}

func badTexts() []string {
	return place("\x00", "t\x00", "\x00t", strings.Repeat("t", api.MaxText)+"\x00", strings.Repeat("t", api.MaxText-1)+"\x00", strings.Repeat("t", api.MaxText+1), strings.Repeat("t", 100000))
}

// P10.1: MakeFile at each sort of place, with texts that a file may have and may not.
func TestMakeFile(t *testing.T) {
	for _, text := range append(goodTexts(), "") {
		c := call{what: "MakeFile", text: text}
		checkDone(t, c, file(text), taken())
		checkRefused(t, c, api.ErrTwice, root(), files(), links(), empty(), full())
		checkRefused(t, c, api.ErrNone, notTaken())
	}
	for _, text := range badTexts() {
		c := call{what: "MakeFile", text: text}
		checkRefused(t, c, api.ErrForm, taken(), root(), files(), links(), empty(), full())
		checkRefused(t, c, api.ErrNone, notTaken())
	}
}

// P10.1: MakeLink at each sort of place, with texts that a link may have and may not.
func TestMakeLink(t *testing.T) {
	for _, text := range goodTexts() {
		c := call{what: "MakeLink", text: text}
		checkDone(t, c, link(text), taken())
		checkRefused(t, c, api.ErrTwice, root(), files(), links(), empty(), full())
		checkRefused(t, c, api.ErrNone, notTaken())
	}
	for _, text := range append(badTexts(), "") {
		c := call{what: "MakeLink", text: text}
		checkRefused(t, c, api.ErrForm, taken(), root(), files(), links(), empty(), full())
		checkRefused(t, c, api.ErrNone, notTaken())
	}
}

// P10.1: Touch makes an empty file where nothing stands; where a file or a directory does, it does nothing.
func TestTouch(t *testing.T) {
	c := call{what: "Touch"}
	checkDone(t, c, file(""), taken())
	for _, p := range slices.Concat(root(), files(), empty(), full()) {
		checkDone(t, c, node(p), [][]string{p})
	}
	checkRefused(t, c, api.ErrNone, links(), notTaken())
}

// P10.1: RemoveDir takes away directories without names alone.
func TestRemoveDir(t *testing.T) {
	c := call{what: "RemoveDir"}
	checkDone(t, c, api.Node{}, empty())
	checkRefused(t, c, api.ErrNone, taken(), notTaken())
	checkRefused(t, c, api.ErrKind, files(), links())
	checkRefused(t, c, api.ErrBusy, root(), full())
	tree := treeOf(t, dir())
	if e := prim.RemoveDir(tree, nil); e != api.ErrBusy || !ftree.Same(tree.Root(), dir()) {
		t.Errorf("RemoveDir of a root without names: %d", e)
	}
}

// P10.1: Unlink takes away files and links alone.
func TestUnlink(t *testing.T) {
	c := call{what: "Unlink"}
	checkDone(t, c, api.Node{}, files(), links())
	checkRefused(t, c, api.ErrNone, taken(), notTaken())
	checkRefused(t, c, api.ErrKind, root(), empty(), full())
}

// P10.1: RemoveAll takes away what is there, but the root.
func TestRemoveAll(t *testing.T) {
	c := call{what: "RemoveAll"}
	checkDone(t, c, api.Node{}, files(), links(), empty(), full())
	checkRefused(t, c, api.ErrNone, taken(), notTaken())
	checkRefused(t, c, api.ErrBusy, root())
	tree := treeOf(t, dir())
	if e := prim.RemoveAll(tree, place()); e != api.ErrBusy || !ftree.Same(tree.Root(), dir()) {
		t.Errorf("RemoveAll of a root without names: %d", e)
	}
}

// No file system is ErrNil, whatever else is wrong; so is one that is a nil object.
func TestNoFileSystem(t *testing.T) {
	var none *ftree.Tree
	for _, f := range []ftree.FS{nil, none, none.Clone()} {
		for _, p := range slices.Concat(root(), taken(), notTaken(), files(), full()) {
			for _, c := range callsOfOne() {
				for _, text := range place("t", "", "\x00") {
					c.text = text
					if got := c.at(p, nil).on(f); got != api.ErrNil {
						t.Errorf("%s(nil, %q): %d", c.what, p, got)
					}
				}
			}
			for _, c := range callsOfTwo() {
				for _, to := range slices.Concat(root(), full(), notTaken()[:3], [][]string{p}) {
					if got := c.at(p, to).on(f); got != api.ErrNil {
						t.Errorf("%s(nil, %q, %q): %d", c.what, p, to, got)
					}
				}
			}
		}
	}
}

// listed is a file system of a type whose values can't be held against one another.
type listed struct {
	ftree.FS
	_ []string
}

// R1: a file system of such a type is one like any other.
func TestFileSystemOfAnyType(t *testing.T) {
	for _, c := range slices.Concat(callsOfOne(), callsOfTwo()) {
		tree, want := treeOf(t, sample()), treeOf(t, sample())
		c := c.at(at("d/f"), at("e/z"))
		if got, e := c.on(listed{FS: tree}), c.on(want); got != e || !ftree.Same(tree.Root(), want.Root()) {
			t.Errorf("%+v: %d; want %d", c, got, e)
		}
	}
}

// How many nodes there are then, and how deep, is not asked.
func TestMoreThanATree(t *testing.T) {
	tree := treeOf(t, dir(in("f", file("x"))))
	var deep []string
	for range 2 * api.MaxDepth {
		deep = append(deep, "d")
		if e := prim.MakeDir(tree, deep); e != api.OK {
			t.Fatalf("MakeDir of %d names: %d", len(deep), e)
		}
	}
	last := append(deep, "f")
	if e := prim.Rename(tree, at("f"), last); e != api.OK || tree.Text(last) != "x" {
		t.Errorf("Rename far down: %d", e)
	}
	for i := range api.MaxNodes {
		if e := prim.Copy(tree, at("d"), place(strconv.Itoa(i)), true); e != api.OK {
			t.Fatalf("Copy of a directory for the time %d: %d", i, e)
		}
	}
	if want, got := 1+(api.MaxNodes+1)*(2*api.MaxDepth+1), ftree.Nodes(tree.Root()); got != want {
		t.Errorf("%d nodes; want %d", got, want)
	}
}
