package prim_test

import (
	"testing"

	"touchstone/api"
	"touchstone/ftree"
	"touchstone/prim"
)

// undo is a call, and one that takes back what it did.
type undo struct{ does, back call }

// undosOf are calls at a place that make something there where nothing stands, each with all that take it away.
func undosOf(p []string) []undo {
	ends := map[string][]string{"MakeDir": {"RemoveDir", "RemoveAll"}, "MakeFile": {"Unlink", "RemoveAll"}, "MakeLink": {"Unlink", "RemoveAll"}, "Touch": {"Unlink", "RemoveAll"}}
	var all []undo
	for _, c := range callsOfOne() {
		for _, end := range ends[c.what] {
			all = append(all, undo{c.at(p, nil), call{what: end, from: p}})
		}
	}
	return all
}

// checkUndone checks that a call, and the one that takes it back, are not refused, and leave a tree as it was.
func checkUndone(t *testing.T, root api.Node, u undo) {
	t.Helper()
	tree := treeOf(t, root)
	e := u.does.on(tree)
	there := tree.Root()
	back := u.back.on(tree)
	if e != api.OK || back != api.OK || !ftree.Same(tree.Root(), root) || ftree.Same(there, root) {
		t.Fatalf("%+v: %d, then %v; %+v: %d, then %v; on %v", u.does, e, there, u.back, back, tree.Root(), root)
	}
}

// P10.4: what was made, touched or copied, and is taken away, leaves the tree as it was.
func TestMadeAndTakenAway(t *testing.T) {
	tried := 0
	for _, root := range append(smallRoots(), sample()) {
		flat := flatOf(root)
		for _, p := range smallPlaces() {
			if isBad(flat, p) || flat.Kind(p) != api.Absent {
				continue
			}
			for _, u := range undosOf(p) {
				checkUndone(t, root, u)
				tried++
			}
			for _, from := range smallPlaces() {
				c := call{what: "Copy", from: from, to: p, deep: true}
				if errorOf(flat, c) == api.OK {
					checkUndone(t, root, undo{c, call{what: "RemoveAll", from: p}})
					tried++
				}
			}
		}
	}
	if tried < 1000 {
		t.Errorf("%d alone were tried", tried)
	}
}

// P10.4: what was renamed to a place where nothing stood, and back, leaves the tree as it was.
func TestRenamedAndBack(t *testing.T) {
	tried := 0
	for _, root := range append(smallRoots(), sample()) {
		flat := flatOf(root)
		for _, a := range smallPlaces() {
			for _, b := range smallPlaces() {
				c := call{what: "Rename", from: a, to: b}
				if flat.Kind(b) == api.Absent && errorOf(flat, c) == api.OK {
					checkUndone(t, root, undo{c, c.at(b, a)})
					tried++
				}
			}
		}
	}
	if tried < 400 {
		t.Errorf("%d alone were tried", tried)
	}
}

// P10.4: a long row of calls, taken back from the last one on.
func TestRowTakenBack(t *testing.T) {
	tree := treeOf(t, sample())
	row := []undo{
		{call{what: "MakeDir", from: at("n")}, call{what: "RemoveDir", from: at("n")}},
		{call{what: "MakeFile", from: at("n/f"), text: "x"}, call{what: "Unlink", from: at("n/f")}},
		{call{what: "Copy", from: at("d"), to: at("n/d"), deep: true}, call{what: "RemoveAll", from: at("n/d")}},
		{call{what: "Rename", from: at("d"), to: at("n/d/d/d")}, call{what: "Rename", from: at("n/d/d/d"), to: at("d")}},
		{call{what: "Touch", from: at("d")}, call{what: "Unlink", from: at("d")}},
		{call{what: "MakeLink", from: at("n/d/e/l"), text: "/d"}, call{what: "RemoveAll", from: at("n/d/e/l")}},
		{call{what: "Rename", from: at("n"), to: at("e/n")}, call{what: "Rename", from: at("e/n"), to: at("n")}},
	}
	for _, u := range row {
		if e := u.does.on(tree); e != api.OK {
			t.Fatalf("%+v: %d", u.does, e)
		}
	}
	for i := range row {
		u := row[len(row)-1-i]
		if e := u.back.on(tree); e != api.OK {
			t.Fatalf("%+v: %d", u.back, e)
		}
	}
	if !ftree.Same(tree.Root(), sample()) {
		t.Errorf("the tree is %v", tree.Root())
	}
}

// P10.3: a refused call, again and between others, changes nothing that a later call could tell.
func TestRefusedBetweenOthers(t *testing.T) {
	one, other := treeOf(t, sample()), treeOf(t, sample())
	refused := []call{{what: "MakeDir", from: at("d")}, {what: "MakeFile", from: at("z"), text: "\x00"}, {what: "RemoveDir", from: at("d")}, {what: "Unlink", from: at("e")}, {what: "RemoveAll"}, {what: "Rename", from: at("d"), to: at("d/z")}, {what: "Copy", from: at("d"), to: at("e"), deep: true}, {what: "Copy", from: at("d"), to: at("z")}}
	for i := range 9 {
		for _, c := range refused {
			if e := c.on(one); e == api.OK {
				t.Fatalf("%+v is not refused", c)
			}
		}
		p := at("e/" + string(rune('a'+i)))
		if got, want := prim.Copy(one, at("d"), p, true), prim.Copy(other, at("d"), p, true); got != want || !ftree.Same(one.Root(), other.Root()) {
			t.Fatalf("Copy(d, %q): %d, without the refused ones %d", p, got, want)
		}
	}
}
