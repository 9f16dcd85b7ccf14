package prim_test

import (
	"slices"
	"testing"

	"touchstone/api"
	"touchstone/ftree"
	"touchstone/prim"
)

// checkTwo checks what calls of two places answer over the sample, and that what is refused changes nothing.
func checkTwo(t *testing.T, calls []call, want api.Errno, from, to [][]string) {
	t.Helper()
	for _, c := range calls {
		for _, a := range from {
			for _, b := range to {
				tree := treeOf(t, sample())
				if got := c.at(a, b).on(tree); got != want {
					t.Errorf("%s(%q, %q), deep %v: %d; want %d", c.what, a, b, c.deep, got, want)
				}
				if want != api.OK && !ftree.Same(tree.Root(), sample()) {
					t.Errorf("%s(%q, %q) is refused, and leaves %v", c.what, a, b, tree.Root())
				}
			}
		}
	}
}

// checkLeads checks that a call that is not refused leads from some places to others, as the second way does.
func checkLeads(t *testing.T, calls []call, from, to [][]string) {
	t.Helper()
	checkTwo(t, calls, api.OK, from, to)
	for _, c := range calls {
		for _, a := range from {
			for _, b := range to {
				tree, want := treeOf(t, sample()), flatOf(sample())
				c.at(a, b).on(tree)
				want.copy(a, b)
				if c.what == "Rename" {
					want.del(a)
				}
				checkFlat(t, c.at(a, b), tree, want)
			}
		}
	}
}

// places are places of texts, the root that of /.
func places(texts ...string) (all [][]string) {
	for _, text := range texts {
		if text == "/" {
			all = append(all, nil)
		} else {
			all = append(all, at(text))
		}
	}
	return all
}

var (
	rename = []call{{what: "Rename"}}
	deep   = []call{{what: "Copy", deep: true}}
	flatly = []call{{what: "Copy"}}
	copies = slices.Concat(deep, flatly)
	all    = callsOfTwo()
)

// P10.2: what stands anywhere goes to a place where nothing stands.
func TestToWhereNothingStands(t *testing.T) {
	checkLeads(t, all, slices.Concat(files(), links()), taken())
	checkLeads(t, slices.Concat(rename, deep), empty()[:1], places("z", "d/z", "d/e/f", "d/d/d", "d/e/e", "...z"))
	checkLeads(t, slices.Concat(rename, deep), full()[:1], places("z", "e/z", "e/d", "...z"))
	checkLeads(t, slices.Concat(rename, deep), full()[1:], places("z", "d/z", "e/z", "d/e/d", "d/e/f"))
	checkTwo(t, flatly, api.ErrKind, slices.Concat(empty(), full()), taken())
}

// P10.2: nothing stands at from, whatever stands at to, also where both places are the same.
func TestNothingStandsAtFrom(t *testing.T) {
	to := slices.Concat(root(), taken(), files(), links(), empty(), full(), places("z/..", "d/z/z"))
	checkTwo(t, all, api.ErrNone, taken(), to)
}

// P10.2: a place that may not be taken, as from and as to.
func TestPlacesThatMayNotBeTaken(t *testing.T) {
	good := slices.Concat(root(), taken()[:3], files()[:1], links()[:1], empty()[:1], full())
	checkTwo(t, all, api.ErrNone, notTaken(), good)
	checkTwo(t, all, api.ErrNone, good, notTaken())
	checkTwo(t, all, api.ErrNone, notTaken()[:20], notTaken()[:20])
}

// P10.2: to the same place.
func TestToTheSamePlace(t *testing.T) {
	for _, p := range slices.Concat(root(), files(), links(), empty(), full()) {
		checkTwo(t, all, api.ErrTwice, [][]string{p}, [][]string{slices.Clone(p)})
		checkTwo(t, all, api.ErrTwice, [][]string{p}, [][]string{p})
	}
	for _, p := range taken() {
		checkTwo(t, all, api.ErrNone, [][]string{p}, [][]string{p})
	}
}

// P10.2: from the root: to the root, and below it, where nothing and each Kind stands.
func TestFromTheRoot(t *testing.T) {
	below := slices.Concat(taken(), files(), links(), empty(), full())
	checkTwo(t, all, api.ErrTwice, root(), root())
	checkTwo(t, rename, api.ErrBusy, root(), below)
	checkTwo(t, deep, api.ErrInto, root(), below)
	checkTwo(t, flatly, api.ErrKind, root(), below)
}

// P10.2: to the root, from each Kind.
func TestToTheRoot(t *testing.T) {
	leaves, dirs := slices.Concat(files(), links()), slices.Concat(empty(), full())
	checkTwo(t, all, api.ErrKind, leaves, root())
	checkTwo(t, rename, api.ErrBusy, dirs, root())
	checkTwo(t, deep, api.ErrTwice, dirs, root())
	checkTwo(t, flatly, api.ErrKind, dirs, root())
}

// P10.2: to a place below from: of a directory ErrInto, whatever stands there; below a file or a link no place may be
// taken.
func TestBelow(t *testing.T) {
	for _, x := range []struct{ from, to [][]string }{
		{places("d"), places("d/z", "d/f", "d/l", "d/e", "d/d", "d/e/z", "d/d/f", "d/d/z", "d/d/d")},
		{places("e"), places("e/z", "e/e")},
		{places("d/d"), places("d/d/d", "d/d/f", "d/d/z")},
	} {
		checkTwo(t, slices.Concat(rename, deep), api.ErrInto, x.from, x.to)
		checkTwo(t, flatly, api.ErrKind, x.from, x.to)
	}
	checkTwo(t, all, api.ErrNone, places("f"), places("f/z", "f/f", "f/x/y"))
	checkTwo(t, all, api.ErrNone, places("l"), places("l/z", "l/f", "l/d", "l/d/f"))
	checkTwo(t, all, api.ErrNone, places("d", "e"), places("d/f/z", "d/z/z", "e/z/z", "d/e/..", "e/"))
}

// P10.2: beside a place, not below it: the one's last name goes on where the other one's ends.
func TestBesideIsNotBelow(t *testing.T) {
	checkLeads(t, slices.Concat(rename, deep), places("d"), places("dd", "d ", "d.", "d-d"))
	checkLeads(t, slices.Concat(rename, deep), places("d/d"), places("d/dd", "dd", "e/d"))
}

// P10.2: to a place above from: a directory stands there, which has names.
func TestAbove(t *testing.T) {
	for _, above := range places("d", "/") {
		checkTwo(t, all, api.ErrKind, places("d/f", "d/l", "d/d/f"), [][]string{above})
		checkTwo(t, rename, api.ErrBusy, places("d/e", "d/d"), [][]string{above})
		checkTwo(t, deep, api.ErrTwice, places("d/e", "d/d"), [][]string{above})
		checkTwo(t, flatly, api.ErrKind, places("d/e", "d/d"), [][]string{above})
	}
	lone := treeOf(t, dir(in("d", dir(in("e", dir())))))
	if e := prim.Rename(lone, at("d/e"), at("d")); e != api.ErrBusy {
		t.Errorf("Rename(d e, d), where d has no other name: %d", e)
	}
}

// P10.2: Rename to where something stands: it comes in its place, if that is no directory with names, and both of them
// are directories, or neither.
func TestRenameOver(t *testing.T) {
	leaves := slices.Concat(files(), links())
	for i, from := range leaves {
		others := slices.Delete(slices.Clone(leaves), i, i+1)
		checkLeads(t, rename, [][]string{from}, others)
		checkTwo(t, rename, api.ErrKind, [][]string{from}, slices.Concat(empty(), full(), root()))
	}
	checkTwo(t, rename, api.ErrKind, slices.Concat(empty(), places("d/d")), places("f", "l", "..."))
	checkTwo(t, rename, api.ErrKind, places("d"), places("f", "l", "..."))
	checkLeads(t, rename, places("d/e", "d", "d/d"), places("e"))
	checkLeads(t, rename, places("e", "d/d"), places("d/e"))
	checkTwo(t, rename, api.ErrBusy, places("e", "d/e"), places("d", "d/d"))
	checkTwo(t, rename, api.ErrBusy, places("d/d"), places("d"))
}

// P10.2: Copy to where something stands: of a file or a link in the place of a file; else it is refused.
func TestCopyOver(t *testing.T) {
	leaves := slices.Concat(files(), links())
	for _, from := range leaves {
		isFrom := func(p []string) bool { return slices.Equal(p, from) }
		checkLeads(t, copies, [][]string{from}, slices.DeleteFunc(files(), isFrom))
		checkTwo(t, copies, api.ErrKind, [][]string{from}, slices.Concat(slices.DeleteFunc(links(), isFrom), empty(), full(), root()))
	}
	checkTwo(t, deep, api.ErrTwice, places("e", "d"), places("f", "l", "...", "/"))
	checkTwo(t, deep, api.ErrTwice, places("e"), places("d", "d/d", "d/e", "d/f", "d/l", "/"))
	checkTwo(t, deep, api.ErrTwice, places("d", "d/d", "d/e"), places("e", "/"))
	checkTwo(t, flatly, api.ErrKind, places("e", "d"), places("f", "l", "...", "z", "/"))
}

// P10.2: a copy goes its own way.
func TestCopiesGoTheirOwnWay(t *testing.T) {
	tree := treeOf(t, sample())
	for _, e := range []api.Errno{prim.Copy(tree, at("d"), at("q"), true), prim.RemoveAll(tree, at("d/d")), prim.MakeFile(tree, at("q/z"), "new"), prim.Unlink(tree, at("q/d/f"))} {
		if e != api.OK {
			t.Fatal(e)
		}
	}
	want := flatOf(sample())
	want.copy(at("d"), at("q"))
	want.del(at("d/d"))
	want.set(at("q/z"), file("new"))
	want.del(at("q/d/f"))
	checkFlat(t, call{what: "Copy"}, tree, want)
}

// The row of the errors of Rename and Copy: each next pair of the chapter's table that can hold at once.
func TestRowOfErrors(t *testing.T) {
	// A place that may not be taken, ahead of all that is said of what stands at the two.
	checkTwo(t, all, api.ErrNone, places("/"), places("f/z", ".."))
	checkTwo(t, all, api.ErrNone, places("f/z", ".."), places("f/z", "..", "/"))
	// Nothing stands at from, ahead of both places are the same.
	checkTwo(t, all, api.ErrNone, places("z"), places("z"))
	// Both places are the same, ahead of from is the root, and of a directory that is not copied.
	checkTwo(t, all, api.ErrTwice, places("/"), places("/"))
	checkTwo(t, flatly, api.ErrTwice, places("d"), places("d"))
	// From is the root, ahead of to stands below from.
	checkTwo(t, rename, api.ErrBusy, places("/"), places("z", "f", "d", "d/d"))
	// A directory that is not copied, ahead of to stands below from.
	checkTwo(t, flatly, api.ErrKind, places("d", "/"), places("d/z", "d/f"))
	// To stands below from, ahead of what stands at to.
	checkTwo(t, slices.Concat(rename, deep), api.ErrInto, places("d"), places("d/f", "d/l", "d/d", "d/e"))
	// Just one of the two is a directory, ahead of one that is not empty.
	checkTwo(t, rename, api.ErrKind, places("f", "l"), places("d", "/"))
	// From is a directory, ahead of to is no File.
	checkTwo(t, deep, api.ErrTwice, places("e"), places("d", "l", "/"))
	checkTwo(t, flatly, api.ErrKind, places("e"), places("d", "l", "/", "f"))
}
