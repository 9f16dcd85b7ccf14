package ftree_test

import (
	"slices"
	"strconv"
	"strings"
	"testing"

	"touchstone/api"
	"touchstone/ftree"
)

var (
	longestName = strings.Repeat("n", api.MaxName)
	longestText = strings.Repeat("t", api.MaxText)
)

// entry is a node with its name in a directory.
type entry struct {
	name string
	node api.Node
}

func in(name string, n api.Node) entry { return entry{name, n} }
func file(text string) api.Node        { return api.Node{Kind: api.File, Text: text} }
func link(text string) api.Node        { return api.Node{Kind: api.Link, Text: text} }
func place(names ...string) []string   { return names }

// dir is a directory of these entries, in the row in which they stand here.
func dir(entries ...entry) api.Node {
	n := api.Node{Kind: api.Dir}
	for _, e := range entries {
		n.Names = append(n.Names, e.name)
		n.Kids = append(n.Kids, e.node)
	}
	return n
}

// chain is a node below so many directories, each one of which has nothing else.
func chain(directories int, n api.Node) api.Node {
	for range directories {
		n = dir(in("d", n))
	}
	return n
}

// wide is a directory of so many nodes like this one, and with others behind them.
func wide(count int, n api.Node, behind ...entry) api.Node {
	var entries []entry
	for i := range count {
		entries = append(entries, in("k"+strconv.Itoa(100000+i), n))
	}
	return dir(append(entries, behind...)...)
}

// someTree has nodes of each Kind, at the root and further down.
func someTree() api.Node {
	return dir(
		in("a", file("x")),
		in("d", dir(in("e", file("")), in("f", dir(in("g", link("../e")))), in("h", dir()))),
		in("l", link("d")),
		in("z", dir()))
}

func wellFormed() []api.Node {
	return []api.Node{
		file(""), file("x"), file(longestText), file("a\nb\xff/"),
		link("x"), link("/"), link(".."), link("a//b/."), link("\n"), link(longestText),
		dir(), {Kind: api.Dir, Names: []string{}, Kids: []api.Node{}}, {Kind: api.File, Names: []string{}, Kids: []api.Node{}},
		dir(in("a", file(""))), dir(in("a", dir()), in("b", link("a"))), dir(in(longestName, dir())),
		dir(in("...", file("")), in("..a", file("")), in(".a", file("")), in("A", file("")), in("a", file("")), in("a b", file("")), in("aa", file("")), in("b", file("")), in("\xff", file(""))),
		dir(in("\x01", file("")), in(" ", file("")), in("-", dir()), in("\\", dir()), in("é", dir())),
		someTree(), wide(5000, file("")), chain(100, link("x")),
	}
}

func illFormed() []api.Node {
	return []api.Node{
		{}, {Kind: 4}, {Kind: 255}, {Text: "x"}, {Kind: 4, Text: "x"}, {Names: place("a"), Kids: []api.Node{file("")}},
		file(longestText + "t"), file("\x00"), file("a\x00b"),
		{Kind: api.File, Names: place("a")}, {Kind: api.File, Kids: []api.Node{file("")}}, {Kind: api.File, Names: place("a"), Kids: []api.Node{file("")}},
		link(""), link(longestText + "t"), link("\x00"), link("a\x00"),
		{Kind: api.Link, Text: "x", Names: place("a")}, {Kind: api.Link, Text: "x", Kids: []api.Node{file("")}}, {Kind: api.Link, Text: "x", Names: place("a"), Kids: []api.Node{dir()}},
		{Kind: api.Dir, Text: "x"}, {Kind: api.Dir, Text: "x", Names: place("a"), Kids: []api.Node{file("")}},
		{Kind: api.Dir, Names: place("a")}, {Kind: api.Dir, Names: place("a", "b"), Kids: []api.Node{file("")}},
		{Kind: api.Dir, Kids: []api.Node{file("")}}, {Kind: api.Dir, Names: place("a"), Kids: []api.Node{file(""), file("")}},
		dir(in("b", file("")), in("a", file(""))), dir(in("a", file("")), in("c", file("")), in("b", file(""))), dir(in("a", file("")), in("B", file(""))),
		dir(in("a", file("")), in("a", file(""))), dir(in("a", file("")), in("b", dir()), in("b", dir())), dir(in("aa", dir()), in("a", dir())), dir(in("\xff", dir()), in("\x7f", dir())),
		dir(in("", file(""))), dir(in(".", file(""))), dir(in("..", dir())), dir(in("a/b", file(""))), dir(in("/", file(""))), dir(in("a\n", file(""))), dir(in("\x00", file(""))), dir(in(longestName+"n", file(""))),
		dir(in(".", file("")), in("a", file(""))), dir(in("a", file("")), in("a/b", file(""))), dir(in("a", file("")), in("b\n", file(""))),
	}
}

// P7.1: nodes that are well formed.
func TestWell(t *testing.T) {
	for _, n := range wellFormed() {
		for _, x := range []api.Node{n, chain(1, n), chain(3, n), wide(3, n), dir(in("a", file("x")), in("b", n), in("c", dir()))} {
			if !ftree.Well(x) {
				t.Errorf("Well(%.200q) is no", shown(x))
			}
		}
	}
}

// P7.1, P7.2: nodes that are not well formed, whatever stands above and beside them.
func TestNotWell(t *testing.T) {
	for i, n := range illFormed() {
		for _, x := range []api.Node{n, chain(1, n), chain(3, n), dir(in("a", n), in("b", dir())), dir(in("a", file("x")), in("b", n)), wide(7, dir(), in("z", n), in("zz", dir()))} {
			if ftree.Well(x) || ftree.May(x) {
				t.Errorf("ill-formed node %d: Well(%.200q) = %v, May = %v", i, shown(x), ftree.Well(x), ftree.May(x))
			}
			if tree, e := ftree.New(x); tree != nil || e != api.ErrForm {
				t.Errorf("New of ill-formed node %d: %v, %d", i, tree, e)
			}
		}
	}
}

// P7.1: a name, and a text, of each byte.
func TestWellOfEachByte(t *testing.T) {
	for i := range 256 {
		text := string([]byte{'a', byte(i), 'a'})
		if got := ftree.Well(dir(in(text, dir()))); got == (i == 0 || i == '\n' || i == '/') {
			t.Errorf("with the name %q: %v", text, got)
		}
		if ftree.Well(file(text)) != (i != 0) || ftree.Well(link(text)) != (i != 0) {
			t.Errorf("with the text %q: %v, %v", text, ftree.Well(file(text)), ftree.Well(link(text)))
		}
	}
}

// P7.1: trees of just as many nodes, and just as deep, as a tree may be, and of one more.
func TestMay(t *testing.T) {
	half := api.MaxNodes / 2
	for _, x := range []struct {
		node api.Node
		may  bool
	}{
		{dir(), true}, {someTree(), true}, {dir(in("l", link("x"))), true},
		{file(""), false}, {file("x"), false}, {link("x"), false}, {api.Node{}, false}, {api.Node{Kind: 4}, false},
		{wide(api.MaxNodes-1, file("")), true}, {wide(api.MaxNodes, file("")), false}, {wide(api.MaxNodes-2, dir(), in("z", dir())), true}, {wide(api.MaxNodes-1, dir(), in("z", dir())), false},
		{wide(half-2, file(""), in("z", wide(api.MaxNodes-half, link("x")))), true}, {wide(half-2, file(""), in("z", wide(api.MaxNodes-half+1, link("x")))), false}, {wide(half-1, file(""), in("z", wide(api.MaxNodes-half, file("")))), false},
		{chain(api.MaxDepth, file("")), true}, {chain(api.MaxDepth, dir()), true}, {chain(api.MaxDepth, link("x")), true},
		{chain(api.MaxDepth+1, file("")), false}, {chain(api.MaxDepth+1, dir()), false}, {chain(api.MaxDepth+1, link("x")), false},
		{dir(in("a", dir()), in("d", chain(api.MaxDepth-1, dir()))), true}, {dir(in("a", dir()), in("d", chain(api.MaxDepth, dir()))), false}, {dir(in("d", chain(api.MaxDepth, dir())), in("z", dir())), false},
		{chain(api.MaxDepth-1, wide(api.MaxNodes-api.MaxDepth, file(""))), true}, {chain(api.MaxDepth-1, wide(api.MaxNodes-api.MaxDepth+1, file(""))), false}, {chain(api.MaxDepth, wide(1, file(""))), false},
	} {
		if got := ftree.May(x.node); got != x.may {
			t.Errorf("May of %d nodes (%.60q) = %v", ftree.Nodes(x.node), shown(x.node), got)
		}
		if tree, e := ftree.New(x.node); (e == api.OK) != x.may || (tree != nil) != x.may || !x.may && e != api.ErrForm {
			t.Errorf("New of %d nodes (%.60q) = %v, %d", ftree.Nodes(x.node), shown(x.node), tree, e)
		}
	}
}

// P7.1, R1: what is no tree is found to be none, however many nodes are within one another.
func TestMayOfFarTooMany(t *testing.T) {
	n := file("")
	for range 200 {
		n = dir(in("a", n), in("b", n))
	}
	if ftree.May(n) {
		t.Error("May")
	}
	if tree, e := ftree.New(n); tree != nil || e != api.ErrForm {
		t.Errorf("New = %v, %d", tree, e)
	}
}

// P7.1: nodes are the same, if all of them are.
func TestSame(t *testing.T) {
	differ := append(illFormed(),
		file(""), file("x"), file("X"), link("x"), dir(),
		dir(in("a", file(""))), dir(in("a", file("x"))), dir(in("a", link("x"))), dir(in("a", dir())), dir(in("b", file(""))),
		dir(in("a", file("")), in("b", file(""))), dir(in("a", file("")), in("c", file(""))), dir(in("a", file("")), in("b", file("x"))), dir(in("a", file("x")), in("b", file(""))), dir(in("a", file("")), in("b", file("")), in("c", file(""))),
		chain(5, file("")), chain(5, file("x")), chain(5, dir()), chain(6, file("")), chain(100, file("x")), chain(100, link("x")),
		someTree(), dir(in("some", someTree())), wide(500, file("")), wide(499, file("")), wide(500, file(""), in("z", file("x"))))
	for i, a := range differ {
		for k, b := range differ {
			if got := ftree.Same(a, again(b)); got != (i == k) {
				t.Errorf("Same(%.90q, %.90q) = %v", shown(a), shown(b), got)
			}
		}
	}
}

// P7.1, R6: an empty list is none.
func TestSameOfEmptyLists(t *testing.T) {
	for _, kind := range []uint8{api.Absent, api.File, api.Dir, api.Link} {
		a, b := api.Node{Kind: kind, Text: "x"}, api.Node{Kind: kind, Text: "x", Names: []string{}, Kids: []api.Node{}}
		if !ftree.Same(a, b) || !ftree.Same(b, a) || !ftree.Same(dir(in("k", a)), dir(in("k", b))) {
			t.Errorf("Kind %d: not the same", kind)
		}
	}
}

// P7.1: how many nodes, of whatever.
func TestNodes(t *testing.T) {
	for _, x := range []struct {
		node api.Node
		want int
	}{
		{file("x"), 1}, {link("x"), 1}, {dir(), 1}, {dir(in("a", file(""))), 2}, {dir(in("a", dir()), in("b", dir())), 3},
		{someTree(), 9}, {chain(24, file("")), 25}, {chain(1000, dir()), 1001}, {wide(api.MaxNodes, dir()), api.MaxNodes + 1}, {wide(300, someTree()), 2701},
		// What is not well formed.
		{api.Node{}, 1}, {api.Node{Kind: 77, Text: "x", Names: place("a", "b")}, 1}, {link(""), 1}, {dir(in("a", api.Node{}), in("a", link(""))), 3},
		{api.Node{Kind: api.Dir, Names: place("a", "b", "c"), Kids: []api.Node{dir()}}, 2}, {api.Node{Kind: api.Dir, Kids: []api.Node{dir(), {}, file("")}}, 4},
		{api.Node{Kind: api.File, Kids: []api.Node{{}, dir(in("/", someTree()))}}, 12}, {api.Node{Kids: []api.Node{{Kids: []api.Node{{}}}}}, 3}, {chain(10, api.Node{Kind: 9}), 11},
	} {
		if got := ftree.Nodes(x.node); got != x.want {
			t.Errorf("Nodes(%.90q) = %d; want %d", shown(x.node), got, x.want)
		}
	}
}

// checkAt checks what stands at a place of a node.
func checkAt(t *testing.T, n api.Node, at []string, want api.Node) {
	t.Helper()
	if got, ok := ftree.At(n, at); !ok || !ftree.Same(got, want) {
		t.Errorf("At(%.90q, %.90q) = %q, %v; want %q", shown(n), at, shown(got), ok, shown(want))
	}
}

// checkNotAt checks that nothing stands at a place of a node.
func checkNotAt(t *testing.T, n api.Node, at []string) {
	t.Helper()
	if got, ok := ftree.At(n, at); ok || !ftree.Same(got, api.Node{}) {
		t.Errorf("At(%.90q, %.90q) = %q, %v", shown(n), at, shown(got), ok)
	}
}

// P7.1: what stands at places, and where nothing does.
func TestAt(t *testing.T) {
	root := someTree()
	checkAt(t, root, nil, root)
	checkAt(t, root, place(), root)
	checkAt(t, root, place("a"), file("x"))
	checkAt(t, root, place("d"), root.Kids[1])
	checkAt(t, root, place("d", "e"), file(""))
	checkAt(t, root, place("d", "f"), dir(in("g", link("../e"))))
	checkAt(t, root, place("d", "f", "g"), link("../e"))
	checkAt(t, root, place("d", "h"), dir())
	checkAt(t, root, place("l"), link("d"))
	checkAt(t, root, place("z"), dir())
	for _, at := range [][]string{
		place("b"), place("A"), place(""), place("."), place(".."), place("/"), place("aa"), place("zz"), place("\x00"), place("d/e"), place("", "a"), place("a", ""),
		place("a", "b"), place("a", "x"), place("a", "e"), place("l", "e"), place("l", "d"), place("d", "f", "g", "e"), place("d", "g"), place("d", "."), place("d", "..", "a"), place("d", "e", "e"),
		place("d", "f", "g", "h"), place("z", "z"), place("z", "a"), place("e"), place("f", "g"), place("d", "d"), slices.Repeat(place("d"), 100),
	} {
		checkNotAt(t, root, at)
	}
	for _, n := range wellFormed() {
		checkAt(t, n, nil, n)
		checkAt(t, chain(4, n), place("d", "d", "d"), chain(1, n))
		checkAt(t, chain(4, n), place("d", "d", "d", "d"), n)
		checkNotAt(t, chain(4, n), place("d", "d", "e", "d"))
		checkNotAt(t, n, place("none"))
	}
}

// P7.1: at each of many names, and at those between.
func TestAtOfManyNames(t *testing.T) {
	var entries []entry
	for i := range 1000 {
		entries = append(entries, in(strconv.Itoa(1000+i), file(strconv.Itoa(i))))
	}
	for count := range len(entries) {
		count = min(count*count, len(entries))
		n := dir(entries[:count]...)
		for _, e := range entries[:count] {
			checkAt(t, n, place(e.name), e.node)
			checkNotAt(t, n, place(e.name+"0"))
		}
		if checkNotAt(t, n, place("0")); count == len(entries) {
			return
		}
	}
}

// P7.1: of a node that is not well formed nothing stands at any place.
func TestAtOfIllFormed(t *testing.T) {
	for _, ill := range illFormed() {
		for _, n := range []api.Node{ill, dir(in("a", file("")), in("b", ill)), dir(in("a", ill), in("b", dir(in("c", file(""))))), chain(2, ill)} {
			for _, at := range [][]string{nil, place("a"), place("b"), place("b", "c"), place("d"), place("d", "d"), place("")} {
				checkNotAt(t, n, at)
			}
		}
	}
}
