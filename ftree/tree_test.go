package ftree_test

import (
	"slices"
	"strconv"
	"strings"
	"testing"

	"touchstone/api"
	"touchstone/ftree"
	"touchstone/path"
)

// shown is a node as a text that tells all of it.
func shown(n api.Node) string {
	var text strings.Builder
	var show func(n api.Node)
	show = func(n api.Node) {
		text.WriteString(strconv.Itoa(int(n.Kind)) + strconv.Quote(n.Text) + "[")
		for _, name := range n.Names {
			text.WriteString(strconv.Quote(name))
		}
		for _, kid := range n.Kids {
			show(kid)
		}
		text.WriteString("]")
	}
	show(n)
	return text.String()
}

// again is the same node, whatever it is, in other memory.
func again(n api.Node) api.Node {
	n.Text, n.Names, n.Kids = strings.Clone(n.Text), slices.Clone(n.Names), slices.Clone(n.Kids)
	for i := range n.Names {
		n.Names[i] = strings.Clone(n.Names[i])
	}
	for i := range n.Kids {
		n.Kids[i] = again(n.Kids[i])
	}
	return n
}

func treeOf(t *testing.T, n api.Node) *ftree.Tree {
	t.Helper()
	tree, e := ftree.New(n)
	if e != api.OK || tree == nil {
		t.Fatalf("New(%.200q) = %v, %d", shown(n), tree, e)
	}
	return tree
}

// checkRoot checks a tree's root, and that it is well formed.
func checkRoot(t *testing.T, tree *ftree.Tree, want api.Node) {
	t.Helper()
	if got := tree.Root(); shown(got) != shown(want) || !ftree.Same(got, want) || !ftree.Well(got) {
		t.Errorf("Root = %.600q; want %.600q", shown(got), shown(want))
	}
}

// checkAsked checks what a file system tells of a place.
func checkAsked(t *testing.T, fs ftree.FS, at []string, want api.Node) {
	t.Helper()
	empty := want.Kind == api.Dir && len(want.Names) == 0
	if kind, text := fs.Kind(at), fs.Text(at); kind != want.Kind || text != want.Text || fs.Empty(at) != empty {
		t.Errorf("at %.90q: Kind %d, Text %q, Empty %v; want %.200q", at, kind, text, fs.Empty(at), shown(want))
	}
}

// The chapter's examples.
func TestExamples(t *testing.T) {
	tree := treeOf(t, dir(in("a", file("x")), in("d", dir(in("e", file(""))))))
	checkAsked(t, tree, place("d", "e"), file(""))
	checkAsked(t, tree, place("a", "b"), api.Node{})
	moved := tree.Clone()
	moved.Move(place("a"), place("d"))
	checkRoot(t, moved, dir(in("d", file("x"))))
	tree.Move(place("d"), place("d", "x"))
	tree.Put(place("q", "r"), file(""))
	checkRoot(t, tree, dir(in("a", file("x")), in("d", dir(in("e", file(""))))))
	tree.Del(place("d", "e"))
	checkAsked(t, tree, place("d"), dir())
}

// P7.2: New and Root.
func TestNewAndRoot(t *testing.T) {
	for _, n := range []api.Node{dir(), someTree(), dir(in("l", link("l"))), wide(api.MaxNodes-1, file("x")), chain(api.MaxDepth, link(longestText))} {
		tree := treeOf(t, n)
		checkRoot(t, tree, n)
		checkRoot(t, tree, n)
		checkRoot(t, tree.Clone(), n)
		checkAsked(t, tree, nil, n)
	}
}

// P7.2: what is told of places, those of names that may not be among them.
func TestAsked(t *testing.T) {
	root := someTree()
	tree := treeOf(t, root)
	names := place("a", "d", "e", "f", "g", "h", "l", "z", "", ".", "..", "d/e", "/", "\x00", "dd", longestName, longestName+"n")
	places := [][]string{nil}
	for from, depth := 0, 0; depth < 3; depth++ {
		end := len(places)
		for _, at := range places[from:end] {
			for _, name := range names {
				places = append(places, append(slices.Clone(at), name))
			}
		}
		from = end
	}
	for _, at := range places {
		want, _ := ftree.At(root, at)
		checkAsked(t, tree, at, want)
	}
	checkAsked(t, tree, slices.Repeat(place("d"), 1000), api.Node{})
	checkAsked(t, tree, place("d", "f", "g"), link("../e"))
	checkRoot(t, tree, root)
}

// done is what is done to a tree, and the root behind it.
type done struct {
	what string
	do   func(fs ftree.FS)
	want api.Node
}

// checkDone checks what is done to trees of the same root, one thing to each.
func checkDone(t *testing.T, root api.Node, rows []done) {
	t.Helper()
	first := treeOf(t, root)
	for _, r := range rows {
		tree, other := treeOf(t, root), first.Clone()
		r.do(tree)
		r.do(other)
		for _, x := range []*ftree.Tree{tree, other} {
			if got := x.Root(); shown(got) != shown(r.want) {
				t.Errorf("%s: Root = %.600q; want %.600q", r.what, shown(got), shown(r.want))
			}
		}
	}
	checkRoot(t, first, root)
}

func put(at []string, n api.Node, want api.Node) done {
	return done{"Put " + path.Show(at) + " " + shown(n), func(fs ftree.FS) { fs.Put(at, n) }, want}
}

func del(at []string, want api.Node) done {
	return done{"Del " + path.Show(at), func(fs ftree.FS) { fs.Del(at) }, want}
}

func move(from, to []string, want api.Node) done {
	return done{"Move " + path.Show(from) + " " + path.Show(to), func(fs ftree.FS) { fs.Move(from, to) }, want}
}

func cp(from, to []string, want api.Node) done {
	return done{"Copy " + path.Show(from) + " " + path.Show(to), func(fs ftree.FS) { fs.Copy(from, to) }, want}
}

// smallTree has a File, a directory with a File, and a Link.
func smallTree() api.Node {
	return dir(in("b", file("x")), in("d", dir(in("e", file("y")))), in("l", link("d")))
}

// P7.2: Put at open places, over what stood there, too.
func TestPut(t *testing.T) {
	b, d, l := in("b", file("x")), in("d", dir(in("e", file("y")))), in("l", link("d"))
	checkDone(t, smallTree(), []done{
		put(place("a"), file("n"), dir(in("a", file("n")), b, d, l)),
		put(place("c"), dir(), dir(b, in("c", dir()), d, l)),
		put(place("z"), link("b"), dir(b, d, l, in("z", link("b")))),
		put(place(longestName), file(longestText), dir(b, d, l, in(longestName, file(longestText)))),
		put(place("b"), file("n"), dir(in("b", file("n")), d, l)),
		put(place("b"), dir(in("q", file(""))), dir(in("b", dir(in("q", file("")))), d, l)),
		put(place("d"), file(""), dir(b, in("d", file("")), l)),
		put(place("d"), dir(), dir(b, in("d", dir()), l)),
		put(place("d"), smallTree(), dir(b, in("d", smallTree()), l)),
		put(place("l"), file("f"), dir(b, d, in("l", file("f")))),
		put(place("l"), link("l"), dir(b, d, in("l", link("l")))),
		put(place("d", "a"), smallTree(), dir(b, in("d", dir(in("a", smallTree()), in("e", file("y")))), l)),
		put(place("d", "e"), dir(), dir(b, in("d", dir(in("e", dir()))), l)),
		put(place("d", "f"), link("e"), dir(b, in("d", dir(in("e", file("y")), in("f", link("e")))), l)),
		put(place("d", "d"), file(""), dir(b, in("d", dir(in("d", file("")), in("e", file("y")))), l)),
	})
}

// P7.2: Put at places that are not open does nothing.
func TestPutWhereItIsNotOpen(t *testing.T) {
	root := smallTree()
	var rows []done
	for _, at := range [][]string{
		nil, place(), place("q", "r"), place("b", "x"), place("b", "b"), place("l", "x"), place("l", "e"), place("l", "d"), place("d", "e", "x"), place("d", "q", "r"), place("q", "e"),
		place(""), place("."), place(".."), place("a/b"), place("/"), place("a\n"), place("\x00"), place(longestName + "n"),
		place("d", ""), place("d", "."), place("d", ".."), place("d", "a/b"), place("d", "\n"), place("d", "e\x00"), place("d", longestName+"n"),
		place("", "a"), place(".", "a"), place("d", ".", "a"), place("d", "..", "a"), place("/", "d", "a"), slices.Repeat(place("d"), 5000),
	} {
		for _, n := range []api.Node{file("n"), dir(), link("d"), smallTree()} {
			rows = append(rows, put(at, n, root))
		}
	}
	checkDone(t, root, rows)
}

// P7.2: Put of each node that is well formed, and of those that are not: they don't stand there.
func TestPutOfNodes(t *testing.T) {
	root := smallTree()
	var rows []done
	for _, n := range wellFormed() {
		rows = append(rows, put(place("d", "e"), n, dir(in("b", file("x")), in("d", dir(in("e", n))), in("l", link("d")))))
	}
	for _, ill := range illFormed() {
		for _, n := range []api.Node{ill, chain(2, ill), dir(in("a", file("")), in("b", ill))} {
			rows = append(rows, put(place("a"), n, root), put(place("b"), n, root), put(place("d", "e"), n, root), put(place("d"), n, root))
		}
	}
	checkDone(t, root, rows)
}

// P7.2: how many nodes there are then, and how deep, is not asked.
func TestPutOfMoreThanMayBe(t *testing.T) {
	tree := treeOf(t, wide(api.MaxNodes-2, file("")))
	tree.Put(place("z"), chain(1000, dir()))
	tree.Put(place("zz"), wide(3000, file("")))
	if got := ftree.Nodes(tree.Root()); got != api.MaxNodes-1+1001+3001 {
		t.Errorf("%d nodes", got)
	}
	deepest := append(place("z"), slices.Repeat(place("d"), 1000)...)
	tree.Put(append(slices.Clone(deepest), "e"), file("x"))
	checkAsked(t, tree, append(slices.Clone(deepest), "e"), file("x"))
	tree.Move(deepest, place("a"))
	checkAsked(t, tree, place("a", "e"), file("x"))
	checkAsked(t, tree, deepest[:1000], dir())
	if root := tree.Root(); !ftree.Well(root) || ftree.May(root) {
		t.Errorf("the root: %v, %v", ftree.Well(root), ftree.May(root))
	}
}

// P7.2: Del.
func TestDel(t *testing.T) {
	root := smallTree()
	b, d, l := in("b", file("x")), in("d", dir(in("e", file("y")))), in("l", link("d"))
	rows := []done{
		del(place("b"), dir(d, l)), del(place("d"), dir(b, l)), del(place("l"), dir(b, d)), del(place("d", "e"), dir(b, in("d", dir()), l)),
	}
	for _, at := range [][]string{
		nil, place(), place("a"), place("c"), place("z"), place("e"), place("b", "x"), place("b", "b"), place("l", "e"), place("d", "a"), place("d", "z"), place("d", "e", "y"), place("d", "e", "e"), place("q", "r"),
		place(""), place("."), place(".."), place("d/e"), place("", "b"), place("d", ""), place("d", "."), place("d", ".."), place("d", "..", "b"), place(longestName + "n"), place("\x00"),
	} {
		rows = append(rows, del(at, root))
	}
	checkDone(t, root, rows)
	checkDone(t, dir(), []done{del(nil, dir()), del(place("a"), dir()), del(place("a", "b"), dir())})
}

// P7.2: Move and Copy to open places, over what stood there, too.
func TestMoveAndCopy(t *testing.T) {
	e := in("e", file("y"))
	b, d, l := in("b", file("x")), in("d", dir(e)), in("l", link("d"))
	checkDone(t, smallTree(), []done{
		move(place("b"), place("a"), dir(in("a", file("x")), d, l)),
		move(place("b"), place("c"), dir(in("c", file("x")), d, l)),
		move(place("b"), place("z"), dir(d, l, in("z", file("x")))),
		move(place("b"), place("d"), dir(in("d", file("x")), l)),
		move(place("b"), place("l"), dir(d, in("l", file("x")))),
		move(place("b"), place("d", "a"), dir(in("d", dir(in("a", file("x")), e)), l)),
		move(place("b"), place("d", "e"), dir(in("d", dir(in("e", file("x")))), l)),
		move(place("d"), place("a"), dir(in("a", dir(e)), b, l)),
		move(place("d"), place("b"), dir(in("b", dir(e)), l)),
		move(place("d"), place("l"), dir(b, in("l", dir(e)))),
		move(place("l"), place("b"), dir(in("b", link("d")), d)),
		move(place("l"), place("d"), dir(b, in("d", link("d")))),
		move(place("l"), place("d", "f"), dir(b, in("d", dir(e, in("f", link("d")))))),
		move(place("d", "e"), place("a"), dir(in("a", file("y")), b, in("d", dir()), l)),
		move(place("d", "e"), place("b"), dir(in("b", file("y")), in("d", dir()), l)),
		move(place("d", "e"), place("d", "a"), dir(b, in("d", dir(in("a", file("y")))), l)),
		cp(place("b"), place("a"), dir(in("a", file("x")), b, d, l)),
		cp(place("b"), place("z"), dir(b, d, l, in("z", file("x")))),
		cp(place("b"), place("d"), dir(b, in("d", file("x")), l)),
		cp(place("b"), place("d", "e"), dir(b, in("d", dir(in("e", file("x")))), l)),
		cp(place("d"), place("c"), dir(b, in("c", dir(e)), d, l)),
		cp(place("d"), place("b"), dir(in("b", dir(e)), d, l)),
		cp(place("l"), place("d", "a"), dir(b, in("d", dir(in("a", link("d")), e)), l)),
		cp(place("l"), place("b"), dir(in("b", link("d")), d, l)),
		cp(place("d", "e"), place("e"), dir(b, d, e, l)),
		cp(place("d", "e"), place("d", "z"), dir(b, in("d", dir(e, in("z", file("y")))), l)),
	})
}

// P7.2: Move and Copy that do nothing: from where nothing stands, to where it is not open, and where one place begins by the other.
func TestMoveAndCopyOfNothing(t *testing.T) {
	root := smallTree()
	var rows []done
	for _, x := range [][2][]string{
		{nil, place("a")}, {nil, nil}, {nil, place("d", "a")}, {place("b"), nil}, {place("d", "e"), nil}, {nil, place("b")},
		{place("a"), place("b")}, {place("a"), place("c")}, {place("a"), place("d", "e")}, {place("b", "x"), place("a")}, {place("l", "e"), place("a")}, {place("d", "a"), place("a")}, {place("q", "r"), place("a")}, {place("d", "e", "y"), place("a")},
		{place(""), place("a")}, {place("."), place("a")}, {place(".."), place("a")}, {place("d", "..", "b"), place("a")}, {place("d/e"), place("a")},
		{place("b"), place("q", "r")}, {place("b"), place("l", "a")}, {place("b"), place("d", "e", "a")}, {place("d"), place("b", "a")}, {place("d", "e"), place("l", "e")}, {place("d", "e"), place("b", "a")},
		{place("b"), place("")}, {place("b"), place(".")}, {place("b"), place("..")}, {place("b"), place("a/b")}, {place("b"), place("\n")}, {place("b"), place("d", "")}, {place("b"), place("d", ".")}, {place("b"), place("d", "..")}, {place("b"), place(longestName + "n")},
		{place("b"), place("b")}, {place("d"), place("d")}, {place("l"), place("l")}, {place("d", "e"), place("d", "e")}, {place("a"), place("a")},
		{place("d"), place("d", "x")}, {place("d"), place("d", "e")}, {place("d"), place("d", "e", "f")}, {place("d"), place("d", "d")}, {place("d", "e"), place("d")}, {place("b"), place("b", "b")}, {place("b", "b"), place("b")}, {place("l"), place("l", "e")},
	} {
		rows = append(rows, move(x[0], x[1], root), cp(x[0], x[1], root))
	}
	checkDone(t, root, rows)
}

// P7.2: a place of which another one's names are not the first ones is no beginning, though its text is.
func TestMoveToNamesThatBeginLikewise(t *testing.T) {
	root := dir(in("a", dir(in("x", file("1")))), in("ab", dir()))
	checkDone(t, root, []done{
		move(place("a"), place("ab"), dir(in("ab", dir(in("x", file("1")))))),
		move(place("a"), place("ab", "a"), dir(in("ab", dir(in("a", dir(in("x", file("1")))))))),
		move(place("ab"), place("a"), dir(in("a", dir()))),
		move(place("ab"), place("a", "b"), dir(in("a", dir(in("b", dir()), in("x", file("1")))))),
		cp(place("a", "x"), place("ab", "x"), dir(in("a", dir(in("x", file("1")))), in("ab", dir(in("x", file("1")))))),
	})
}

// P7.2: each file system goes its own way.
func TestClone(t *testing.T) {
	root := smallTree()
	tree := treeOf(t, root)
	clone := tree.Clone()
	third := clone.Clone()
	tree.Put(place("d", "n"), file("tree"))
	clone.Put(place("d", "n"), file("clone"))
	third.Del(place("d", "e"))
	fourth := clone.Clone()
	clone.Move(place("d"), place("b"))
	fourth.Copy(place("d", "n"), place("d", "a"))
	checkRoot(t, tree, dir(in("b", file("x")), in("d", dir(in("e", file("y")), in("n", file("tree")))), in("l", link("d"))))
	checkRoot(t, clone, dir(in("b", dir(in("e", file("y")), in("n", file("clone")))), in("l", link("d"))))
	checkRoot(t, third, dir(in("b", file("x")), in("d", dir()), in("l", link("d"))))
	checkRoot(t, fourth, dir(in("b", file("x")), in("d", dir(in("a", file("clone")), in("e", file("y")), in("n", file("clone")))), in("l", link("d"))))
	checkRoot(t, treeOf(t, root), root)
}

// P7.2: what was copied goes its own way, too.
func TestCopiesAreApart(t *testing.T) {
	tree := treeOf(t, dir(in("d", dir(in("e", dir(in("f", file("x"))))))))
	tree.Copy(place("d"), place("c"))
	tree.Copy(place("d"), place("c", "e", "d"))
	tree.Put(place("d", "e", "f"), file("d"))
	tree.Put(place("c", "e", "f"), file("c"))
	tree.Put(place("c", "e", "d", "e", "g"), file("g"))
	tree.Del(place("c", "e", "d", "e", "f"))
	checkRoot(t, tree, dir(
		in("c", dir(in("e", dir(in("d", dir(in("e", dir(in("g", file("g")))))), in("f", file("c")))))),
		in("d", dir(in("e", dir(in("f", file("d"))))))))
}

// R1, P7.2: of nil, and of a Tree that New didn't make.
func TestNilAndOthers(t *testing.T) {
	var none *ftree.Tree
	for _, tree := range []*ftree.Tree{none, {}} {
		for _, at := range [][]string{nil, place(), place("a"), place("a", "b"), place("")} {
			tree.Put(at, file("x"))
			tree.Put(at, api.Node{})
			tree.Del(at)
			tree.Move(at, place("b"))
			tree.Move(place("b"), at)
			tree.Copy(at, at)
			tree.Copy(at, place("a", "c"))
			tree.Kind(at)
			tree.Text(at)
			tree.Empty(at)
			tree.Root()
			tree.Clone().Root()
		}
	}
	for _, at := range [][]string{nil, place(), place("a"), place("a", "b")} {
		if none.Kind(at) != api.Absent || none.Text(at) != "" || none.Empty(at) {
			t.Errorf("nil at %q: %d, %q, %v", at, none.Kind(at), none.Text(at), none.Empty(at))
		}
	}
	if root := none.Root(); !ftree.Same(root, dir()) || none.Clone() != nil {
		t.Errorf("nil: %q, %v", shown(root), none.Clone())
	}
}

// P7.5, R1: a directory copied into another one and back, over and over: what is asked for is told, and can be taken away.
func TestCopiedOverAndOver(t *testing.T) {
	tree := treeOf(t, dir(in("a", dir(in("f", file("x"))))))
	for i := range 100 {
		tree.Copy(place("a"), place("b"))
		tree.Move(place("b"), place("a", strconv.Itoa(i)))
	}
	at := place("a", "99", "98", "50", "3", "2", "0")
	checkAsked(t, tree, append(slices.Clone(at), "f"), file("x"))
	tree.Move(at, place("q"))
	checkAsked(t, tree, at, api.Node{})
	checkAsked(t, tree, place("a", "98", "50", "3", "2", "0", "f"), file("x"))
	tree.Del(place("a"))
	checkRoot(t, tree, dir(in("q", dir(in("f", file("x"))))))
}

// Limits: as many parts within one another as may be given.
func TestDeepNodes(t *testing.T) {
	const deep = 1 << 16
	n := chain(deep-2, file("x"))
	tree := treeOf(t, dir())
	tree.Put(place("d"), n)
	at := slices.Repeat(place("d"), deep-1)
	checkAsked(t, tree, at, file("x"))
	tree.Put(at, link("y"))
	root := tree.Root()
	if got, ok := ftree.At(root, at); !ok || !ftree.Same(got, link("y")) || ftree.Nodes(root) != deep || ftree.May(root) || !ftree.Same(root, chain(deep-1, link("y"))) {
		t.Errorf("At = %q, %v, of %d nodes", shown(got), ok, ftree.Nodes(root))
	}
}
