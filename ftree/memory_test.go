package ftree_test

import (
	"slices"
	"sync"
	"testing"
	"unsafe"

	"touchstone/api"
	"touchstone/ftree"
)

// roomy is the same node, with room behind its lists, in which something stands.
func roomy(n api.Node) api.Node {
	names, kids := slices.Clone(n.Names), slices.Clone(n.Kids)
	for i := range kids {
		kids[i] = roomy(kids[i])
	}
	n.Names = append(names, "zzroom", "zzroom")[:len(names)]
	n.Kids = append(kids, file("room"), dir(in("room", file("room"))))[:len(kids)]
	return n
}

// overwrite writes over all of a node's lists, and over the room behind them.
func overwrite(n api.Node) {
	for _, kid := range n.Kids {
		overwrite(kid)
	}
	names, kids := n.Names[:cap(n.Names)], n.Kids[:cap(n.Kids)]
	for i := range names {
		names[i] = "written"
	}
	for i := range kids {
		kids[i] = link("written")
	}
}

// piece is memory from one byte on up to another one.
type piece struct{ from, end uintptr }

// pieces are the memory of all of a node's lists, with the room behind them, and of its texts.
func pieces(n api.Node) (all []piece) {
	add := func(begin unsafe.Pointer, size uintptr) {
		if size > 0 {
			all = append(all, piece{uintptr(begin), uintptr(begin) + size})
		}
	}
	add(unsafe.Pointer(unsafe.StringData(n.Text)), uintptr(len(n.Text)))
	add(unsafe.Pointer(unsafe.SliceData(n.Names)), uintptr(cap(n.Names))*unsafe.Sizeof(""))
	add(unsafe.Pointer(unsafe.SliceData(n.Kids)), uintptr(cap(n.Kids))*unsafe.Sizeof(n))
	for _, name := range n.Names {
		add(unsafe.Pointer(unsafe.StringData(name)), uintptr(len(name)))
	}
	for _, kid := range n.Kids {
		all = append(all, pieces(kid)...)
	}
	return all
}

// checkApart checks that no piece of memory is in two of these nodes, nor twice in one.
func checkApart(t *testing.T, nodes ...api.Node) {
	t.Helper()
	var all []piece
	for _, n := range nodes {
		all = append(all, pieces(n)...)
	}
	slices.SortFunc(all, func(a, b piece) int {
		if a.from < b.from {
			return -1
		}
		return 1
	})
	for i := 1; i < len(all); i++ {
		if all[i].from < all[i-1].end {
			t.Errorf("memory is shared")
			return
		}
	}
}

// bigger is a tree that was made by calls of each sort, some of which share with others what they have.
func bigger(t *testing.T) *ftree.Tree {
	tree := treeOf(t, roomy(again(someTree())))
	tree.Put(place("d", "p"), roomy(again(someTree())))
	tree.Copy(place("d"), place("c"))
	tree.Copy(place("c"), place("z", "c"))
	tree.Copy(place("d", "p"), place("d", "q"))
	tree.Move(place("c", "p", "d"), place("m"))
	tree.Del(place("c", "p", "a"))
	return tree
}

// R3: no two lists of a root share memory, nor do two roots, or what stands at a place.
func TestRootsAreApart(t *testing.T) {
	tree := bigger(t)
	clone := tree.Clone()
	root := tree.Root()
	node, _ := ftree.At(root, place("d"))
	all, _ := ftree.At(root, nil)
	checkApart(t, root, tree.Root(), clone.Root(), tree.Clone().Root(), node, all)
}

// placeApart is a place in memory of its own.
func placeApart(names ...string) []string { return again(api.Node{Names: names}).Names }

// R3: what is handed in and what is handed out share no memory.
func TestHandedInAndOutAreApart(t *testing.T) {
	n, putNode, at := roomy(again(someTree())), roomy(again(smallTree())), placeApart("z", "name")
	tree := treeOf(t, n)
	tree.Put(at, putNode)
	to, moved := placeApart("z", "other"), placeApart("moved")
	tree.Copy(at, to)
	tree.Move(at, moved)
	checkApart(t, n, putNode, tree.Root(), tree.Clone().Root(), api.Node{Names: at}, api.Node{Names: to}, api.Node{Names: moved})
	first, second := tree.Text(place("moved", "b")), tree.Text(place("moved", "b"))
	checkApart(t, tree.Root(), file(first), file(second), n, putNode)
}

// R3: what the caller writes over an answer is seen in none later, nor by other trees.
func TestWritingOverAnswers(t *testing.T) {
	tree := bigger(t)
	clone := tree.Clone()
	want := again(tree.Root())
	overwrite(tree.Root())
	overwrite(clone.Root())
	root := tree.Root()
	node, _ := ftree.At(root, place("d"))
	overwrite(node)
	all, _ := ftree.At(root, nil)
	overwrite(all)
	checkRoot(t, tree, want)
	checkRoot(t, clone, want)
	if !ftree.Same(root, want) {
		t.Errorf("Root = %q", shown(root))
	}
}

// R3: what is handed in is not kept: what the caller writes over it is not seen.
func TestWritingOverArguments(t *testing.T) {
	n, putNode := roomy(again(someTree())), roomy(again(smallTree()))
	tree := treeOf(t, n)
	at, to, from := place("z", "p"), place("z", "q"), place("d", "f")
	tree.Put(at, putNode)
	tree.Copy(from, to)
	tree.Move(at, place("r"))
	want := again(tree.Root())
	overwrite(n)
	overwrite(putNode)
	for _, l := range [][]string{at, to, from} {
		overwrite(api.Node{Names: l})
	}
	checkRoot(t, tree, want)
}

// R3: nor are the bytes of names and texts kept.
func TestWritingOverBytes(t *testing.T) {
	bytes := []byte("name text kid new")
	text := unsafe.String(&bytes[0], len(bytes))
	tree := treeOf(t, dir(in(text[:4], file(text[5:9]))))
	tree.Put(place(text[14:]), dir(in(text[10:13], link(text[5:9]))))
	clear(bytes)
	checkRoot(t, tree, dir(in("name", file("text")), in("new", dir(in("kid", link("text"))))))
}

// R3: what is handed in is neither changed nor read behind its end.
func TestArgumentsStay(t *testing.T) {
	n, putNode := roomy(someTree()), roomy(smallTree())
	root, whole := again(n), again(putNode)
	at, from := append(place("z", "p"), "room", "room")[:2], append(place("d", "f"), "g")[:2]
	tree := treeOf(t, n)
	tree.Put(at, putNode)
	tree.Copy(from, place("y"))
	tree.Move(from, place("x"))
	tree.Del(at[:1])
	checkRoot(t, tree, dir(in("a", file("x")), in("d", dir(in("e", file("")), in("h", dir()))), in("l", link("d")), in("x", dir(in("g", link("../e")))), in("y", dir(in("g", link("../e"))))))
	if !slices.Equal(at[:4], place("z", "p", "room", "room")) || !slices.Equal(from[:3], place("d", "f", "g")) {
		t.Errorf("places: %q, %q", at[:4], from[:3])
	}
	for i, x := range []api.Node{n, putNode} {
		before := []api.Node{root, whole}[i]
		room := x.Names[:len(x.Names)+2][len(x.Names):]
		if !ftree.Same(x, before) || !slices.Equal(room, place("zzroom", "zzroom")) || shown(x.Kids[:len(x.Kids)+1][len(x.Kids)]) != shown(file("room")) {
			t.Errorf("a node that was handed in is %q", shown(x))
		}
	}
	if !ftree.Well(n) || !ftree.May(n) || ftree.Nodes(n) != 9 || !ftree.Same(n, someTree()) || !ftree.Same(someTree(), n) {
		t.Error("what is behind a list is read")
	}
	if _, ok := ftree.At(n, place("zzroom")); ok {
		t.Error("a name behind a list is found")
	}
}

// R2: clones don't see one another, whatever is done to them at a time.
func TestClonesAtOneTime(t *testing.T) {
	tree := bigger(t)
	want := again(tree.Root())
	roots := make([]api.Node, 8)
	var all sync.WaitGroup
	for i := range roots {
		clone := tree.Clone()
		all.Go(func() {
			for range 50 {
				clone.Put(place("d", "n"), file("n"))
				clone.Copy(place("d"), place("c", "d"))
				clone.Move(place("c"), place("d", "n"))
				clone.Del(place("d"))
				clone.Put(place("d"), want)
			}
			roots[i] = clone.Root()
		})
	}
	all.Wait()
	checkRoot(t, tree, want)
	for _, root := range roots {
		if !ftree.Same(root, roots[0]) {
			t.Errorf("%q and %q", shown(root), shown(roots[0]))
		}
	}
}
