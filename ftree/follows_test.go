package ftree_test

import (
	"maps"
	"math/rand"
	"regexp"
	"slices"
	"strconv"
	"strings"
	"testing"

	"touchstone/api"
	"touchstone/ftree"
)

// spot is what a node has itself: its Kind and its text.
type spot struct {
	kind uint8
	text string
}

// flat is the second way to a tree: what stands at each place at which something stands, by the place's key.
type flat map[string]spot

// key is a place as a text: just the keys of what is below a place begin by its key.
func key(at []string) string {
	var text strings.Builder
	for _, name := range at {
		text.WriteString(strconv.Quote(name) + " ")
	}
	return text.String()
}

// add has a node stand at a key, with all that is below it.
func (f flat) add(at string, n api.Node) {
	f[at] = spot{n.Kind, n.Text}
	for i, name := range n.Names {
		f.add(at+key(place(name)), n.Kids[i])
	}
}

func flatOf(n api.Node) flat {
	f := flat{}
	f.add("", n)
	return f
}

var mayBeName = regexp.MustCompile(`^[^/\n\x00]{1,64}$`)

func (f flat) open(at []string) bool {
	if len(at) == 0 || f[key(at[:len(at)-1])].kind != api.Dir {
		return false
	}
	last := at[len(at)-1]
	return mayBeName.MatchString(last) && last != "." && last != ".."
}

// leads tells whether a move, or a copy, does something.
func (f flat) leads(from, to []string) bool {
	a, b := key(from), key(to)
	return f[a].kind != api.Absent && f.open(to) && !strings.HasPrefix(a, b) && !strings.HasPrefix(b, a)
}

func (f flat) put(at []string, n api.Node) {
	if f.open(at) && ftree.Well(n) {
		f.del(at)
		f.add(key(at), n)
	}
}

func (f flat) del(at []string) {
	if len(at) > 0 {
		maps.DeleteFunc(f, func(k string, _ spot) bool { return strings.HasPrefix(k, key(at)) })
	}
}

func (f flat) copy(from, to []string) {
	if !f.leads(from, to) {
		return
	}
	f.del(to)
	for k, s := range maps.Clone(f) {
		if behind, ok := strings.CutPrefix(k, key(from)); ok {
			f[key(to)+behind] = s
		}
	}
}

func (f flat) move(from, to []string) {
	if f.leads(from, to) {
		f.copy(from, to)
		f.del(from)
	}
}

// call is what is done to a file system: the places that it names, the node that it puts.
type call struct {
	what     string
	from, to []string
	node     api.Node
}

func (c call) String() string {
	return c.what + " from " + key(c.from) + "to " + key(c.to) + shown(c.node)
}

func (c call) on(fs ftree.FS) {
	switch c.what {
	case "Put":
		fs.Put(c.to, c.node)
	case "Del":
		fs.Del(c.from)
	case "Move":
		fs.Move(c.from, c.to)
	case "Copy":
		fs.Copy(c.from, c.to)
	}
}

func (c call) onFlat(f flat) {
	switch c.what {
	case "Put":
		f.put(c.to, c.node)
	case "Del":
		f.del(c.from)
	case "Move":
		f.move(c.from, c.to)
	case "Copy":
		f.copy(c.from, c.to)
	}
}

// names tells whether a key is that of a place that a call names, or of one below such a place.
func (c call) names(k string) bool {
	return c.what != "Put" && strings.HasPrefix(k, key(c.from)) || c.what != "Del" && strings.HasPrefix(k, key(c.to))
}

// calls are all calls of these places and nodes.
func calls(places [][]string, nodes []api.Node) (all []call) {
	for _, a := range places {
		all = append(all, call{what: "Del", from: a})
		for _, n := range nodes {
			all = append(all, call{what: "Put", to: a, node: n})
		}
		for _, b := range places {
			all = append(all, call{what: "Move", from: a, to: b}, call{what: "Copy", from: a, to: b})
		}
	}
	return all
}

// placesOf are all places of at most so many of these names.
func placesOf(most int, names ...string) [][]string {
	all := [][]string{nil}
	for from := 0; most > 0; most-- {
		end := len(all)
		for _, at := range all[from:end] {
			for _, name := range names {
				all = append(all, append(slices.Clone(at), name))
			}
		}
		from = end
	}
	return all
}

// smallRoots are roots on which all calls are tried.
func smallRoots() []api.Node {
	return []api.Node{
		dir(), smallTree(), someTree(),
		dir(in("a", file("1")), in("b", file("2"))),
		dir(in("a", dir(in("a", dir(in("a", file("1")), in("b", dir()))), in("b", link("a"))))),
		dir(in("a", dir()), in("b", dir(in("a", file("1")), in("b", file("2"))))),
		dir(in("a", link("b")), in("b", dir(in("b", dir(in("b", link("b"))))))),
	}
}

func smallPlaces() [][]string {
	return append(placesOf(3, "a", "b", "d"), place("d", "e"), place("d", "f", "g"), place("l"), place("z"), place("ab"), place(".."), place("a", ""), place("a/b"), place("b", longestName), place("a", "a", "a", "a"))
}

func putNodes() []api.Node {
	return []api.Node{file(""), file("new"), link("new"), dir(), dir(in("a", file("new")), in("c", dir())), {}, link(""), {Kind: api.Dir, Names: place("a")}}
}

// P7.2: every call on small trees, against the second way; P7.3: what is at no place that it names stays; P7.5: the root stays well formed.
func TestEveryCallOnSmallTrees(t *testing.T) {
	all := calls(smallPlaces(), putNodes())
	for _, root := range smallRoots() {
		first, before := treeOf(t, root), flatOf(root)
		for _, c := range all {
			tree, want := first.Clone(), maps.Clone(before)
			c.on(tree)
			c.onFlat(want)
			then := tree.Root()
			if got := flatOf(then); !maps.Equal(got, want) || !ftree.Well(then) || then.Kind != api.Dir {
				t.Fatalf("%s, on %q: %q", c, shown(root), shown(then))
			}
			checkElsewhere(t, c, root, then)
			checkThere(t, c, first, tree)
		}
		checkRoot(t, first, root)
	}
}

// checkElsewhere checks that what stands at no place that a call names stands there still, and nothing else does.
func checkElsewhere(t *testing.T, c call, before, then api.Node) {
	t.Helper()
	was, is := flatOf(before), flatOf(then)
	maps.DeleteFunc(was, func(k string, _ spot) bool { return c.names(k) })
	maps.DeleteFunc(is, func(k string, _ spot) bool { return c.names(k) })
	if !maps.Equal(was, is) {
		t.Fatalf("%s, on %q: %q", c, shown(before), shown(then))
	}
}

// spotAt is what a file system has at a place, as far as it tells.
func spotAt(fs ftree.FS, p []string) spot { return spot{fs.Kind(p), fs.Text(p)} }

// P7.4: behind a call that does something there is what it says, and behind others what was there.
func checkThere(t *testing.T, c call, before, then *ftree.Tree) {
	t.Helper()
	from, _ := ftree.At(before.Root(), c.from)
	left, _ := ftree.At(then.Root(), c.from)
	come, _ := ftree.At(then.Root(), c.to)
	does := flatOf(before.Root()).leads(c.from, c.to)
	ok := true
	switch {
	case c.what == "Put" && ftree.Well(c.node) && flatOf(before.Root()).open(c.to):
		ok = ftree.Same(come, c.node) && spotAt(then, c.to) == spot{c.node.Kind, c.node.Text} && then.Empty(c.to) == (c.node.Kind == api.Dir && len(c.node.Names) == 0)
	case c.what == "Del" && len(c.from) > 0:
		ok = spotAt(then, c.from) == spot{} && !then.Empty(c.from)
	case c.what == "Move" && does:
		ok = ftree.Same(come, from) && spotAt(then, c.to) == spotAt(before, c.from) && spotAt(then, c.from) == spot{}
	case c.what == "Copy" && does:
		ok = ftree.Same(come, from) && ftree.Same(left, from) && spotAt(then, c.to) == spotAt(before, c.from) && spotAt(then, c.from) == spotAt(before, c.from)
	default:
		ok = ftree.Same(before.Root(), then.Root())
	}
	if !ok {
		t.Fatalf("%s, on %q: %q", c, shown(before.Root()), shown(then.Root()))
	}
}

// P7.2, P7.3, P7.5: long rows of calls on several trees, some of them clones of others, against the second way.
func TestRowsOfCalls(t *testing.T) {
	random := rand.New(rand.NewSource(7))
	names := place("a", "b", "c", "ab", "-", "\xff", longestName, "..")
	somePlace := func() []string {
		var at []string
		for range random.Intn(5) {
			at = append(at, names[min(random.Intn(len(names)+9)%9, len(names)-1)])
		}
		return at
	}
	nodes := append(putNodes(), someTree(), smallTree(), dir(in("a", dir()), in("b", dir()), in("c", dir())), dir(), dir())
	whats := place("Put", "Put", "Put", "Del", "Move", "Move", "Copy", "Copy")
	for range 60 {
		trees, flats := []*ftree.Tree{treeOf(t, someTree())}, []flat{flatOf(someTree())}
		for range 120 {
			i := random.Intn(len(trees))
			c := call{whats[random.Intn(len(whats))], somePlace(), somePlace(), nodes[random.Intn(len(nodes))]}
			if len(flats[i]) > 500 {
				c = call{what: "Del", from: somePlace()}
			}
			c.on(trees[i])
			c.onFlat(flats[i])
			checkFlat(t, c, trees[i], flats[i], somePlace())
			if len(trees) < 6 && random.Intn(10) == 0 {
				trees, flats = append(trees, trees[i].Clone()), append(flats, maps.Clone(flats[i]))
			}
		}
		for i, tree := range trees {
			checkFlat(t, call{what: "all"}, tree, flats[i], nil)
		}
	}
}

// checkFlat checks a tree against the second way, and what it tells of a place.
func checkFlat(t *testing.T, c call, tree *ftree.Tree, want flat, p []string) {
	t.Helper()
	root := tree.Root()
	if !maps.Equal(flatOf(root), want) || !ftree.Well(root) || ftree.Nodes(root) != len(want) {
		t.Fatalf("behind %s: %q", c, shown(root))
	}
	below := 0
	for k := range want {
		if strings.HasPrefix(k, key(p)) {
			below++
		}
	}
	if spotAt(tree, p) != want[key(p)] || tree.Empty(p) != (want[key(p)].kind == api.Dir && below == 1) {
		t.Fatalf("behind %s, at %q: %v, %v; want %v", c, p, spotAt(tree, p), tree.Empty(p), want[key(p)])
	}
}

// P7.4: Move there and back, and Copy and Del of the copy, leave the tree as it was, where nothing stood.
func TestThereAndBack(t *testing.T) {
	for _, root := range smallRoots() {
		for _, a := range smallPlaces() {
			for _, b := range smallPlaces() {
				if first := flatOf(root); !first.leads(a, b) || first[key(b)].kind != api.Absent {
					continue
				}
				moved, copied := treeOf(t, root), treeOf(t, root)
				moved.Move(a, b)
				moved.Move(b, a)
				copied.Copy(a, b)
				copied.Del(b)
				if !ftree.Same(moved.Root(), root) || !ftree.Same(copied.Root(), root) {
					t.Fatalf("%q and %q, on %q: %q, %q", a, b, shown(root), shown(moved.Root()), shown(copied.Root()))
				}
			}
		}
	}
}
