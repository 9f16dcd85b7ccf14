package prim_test

import (
	"maps"
	"regexp"
	"strings"
	"testing"

	"touchstone/api"
	"touchstone/ftree"
)

// answers is what a call may ask of a file system.
type answers interface {
	Kind(place []string) uint8
	Empty(place []string) bool
}

// fault is a row of the chapter's table: an error, and when it holds.
type fault struct {
	e     api.Errno
	holds func(w answers, c call) bool
}

var aName = regexp.MustCompile(`^[^/\n\x00]{1,64}$`)

// isBad tells whether a place may not be taken.
func isBad(w answers, p []string) bool {
	if len(p) == 0 {
		return false
	}
	last := p[len(p)-1]
	return last == "." || last == ".." || !aName.MatchString(last) || w.Kind(p[:len(p)-1]) != api.Dir
}

func standsAtFrom(w answers, c call) bool  { return w.Kind(c.from) != api.Absent }
func isNothing(w answers, c call) bool     { return w.Kind(c.from) == api.Absent }
func isDir(w answers, c call) bool         { return w.Kind(c.from) == api.Dir }
func isNoDir(w answers, c call) bool       { return w.Kind(c.from) != api.Dir }
func isLinkThere(w answers, c call) bool   { return w.Kind(c.from) == api.Link }
func fromIsRoot(_ answers, c call) bool    { return len(c.from) == 0 }
func rootOrNames(w answers, c call) bool   { return len(c.from) == 0 || !w.Empty(c.from) }
func areTheSame(_ answers, c call) bool    { return key(c.from) == key(c.to) }
func isBelow(_ answers, c call) bool       { return strings.HasPrefix(key(c.to), key(c.from)) }
func isBadFrom(w answers, c call) bool     { return isBad(w, c.from) }
func isBadTo(w answers, c call) bool       { return isBad(w, c.to) }
func isFlatDir(w answers, c call) bool     { return isDir(w, c) && !c.deep }
func isDirOverThat(w answers, c call) bool { return isDir(w, c) && w.Kind(c.to) != api.Absent }
func justOneIsDir(w answers, c call) bool {
	return w.Kind(c.to) != api.Absent && (w.Kind(c.to) == api.Dir) != isDir(w, c)
}
func toHasNames(w answers, c call) bool { return w.Kind(c.to) == api.Dir && !w.Empty(c.to) }
func toIsNoFile(w answers, c call) bool {
	return w.Kind(c.to) != api.Absent && w.Kind(c.to) != api.File
}
func isNoText(_ answers, c call) bool {
	return len(c.text) > api.MaxText || strings.Contains(c.text, "\x00") || c.what == "MakeLink" && c.text == ""
}

// table is the chapter's table: the faults of each call, in their row.
func table() map[string][]fault {
	one, two := fault{api.ErrNone, isBadFrom}, fault{api.ErrNone, isBadTo}
	nothing := fault{api.ErrNone, isNothing}
	return map[string][]fault{
		"MakeDir":   {one, {api.ErrTwice, standsAtFrom}},
		"MakeFile":  {one, {api.ErrForm, isNoText}, {api.ErrTwice, standsAtFrom}},
		"MakeLink":  {one, {api.ErrForm, isNoText}, {api.ErrTwice, standsAtFrom}},
		"Touch":     {one, {api.ErrNone, isLinkThere}},
		"RemoveDir": {one, nothing, {api.ErrKind, isNoDir}, {api.ErrBusy, rootOrNames}},
		"Unlink":    {one, nothing, {api.ErrKind, isDir}},
		"RemoveAll": {one, nothing, {api.ErrBusy, fromIsRoot}},
		"Rename":    {one, two, nothing, {api.ErrTwice, areTheSame}, {api.ErrBusy, fromIsRoot}, {api.ErrInto, isBelow}, {api.ErrKind, justOneIsDir}, {api.ErrBusy, toHasNames}},
		"Copy":      {one, two, nothing, {api.ErrTwice, areTheSame}, {api.ErrKind, isFlatDir}, {api.ErrInto, isBelow}, {api.ErrTwice, isDirOverThat}, {api.ErrKind, toIsNoFile}},
	}
}

// errorOf is what a call answers by the chapter's table.
func errorOf(w answers, c call) api.Errno {
	for _, f := range table()[c.what] {
		if f.holds(w, c) {
			return f.e
		}
	}
	return api.OK
}

// Kind and Empty are a second way to what a tree answers.
func (f flat) Kind(p []string) uint8 { return f[key(p)].kind }
func (f flat) Empty(p []string) bool { return f[key(p)].kind == api.Dir && !f.hasNames(p) }

// do does to a tree what a call does that is not refused.
func (f flat) do(c call) {
	switch c.what {
	case "MakeDir":
		f.set(c.from, dir())
	case "MakeFile":
		f.set(c.from, file(c.text))
	case "MakeLink":
		f.set(c.from, link(c.text))
	case "Touch":
		if f.Kind(c.from) == api.Absent {
			f.set(c.from, file(""))
		}
	case "RemoveDir", "Unlink", "RemoveAll":
		f.del(c.from)
	case "Copy":
		f.copy(c.from, c.to)
	case "Rename":
		f.copy(c.from, c.to)
		f.del(c.from)
	}
}

// smallRoots are all directories with an a and a b of these sorts, or without.
func smallRoots() []api.Node {
	nodes := []api.Node{{}, file("1"), link("b"), dir(), dir(in("a", file("2"))), dir(in("b", dir())), dir(in("a", dir(in("b", link("3")))), in("b", file("")))}
	var all []api.Node
	for _, a := range nodes {
		for _, b := range nodes {
			var kids []named
			for _, kid := range []named{in("a", a), in("b", b)} {
				if kid.node.Kind != api.Absent {
					kids = append(kids, kid)
				}
			}
			all = append(all, dir(kids...))
		}
	}
	return all
}

func smallPlaces() [][]string {
	return places("/", "a", "b", "c", "a/a", "a/b", "a/c", "b/a", "b/b", "a/a/a", "a/a/b", "a/a/c", "b/a/b", "a/..", "", "a/a/b/c")
}

// smallCalls are all calls at these places.
func smallCalls() []call {
	var all []call
	for _, a := range smallPlaces() {
		for _, c := range callsOfOne() {
			all = append(all, c.at(a, nil))
		}
		all = append(all, call{what: "MakeFile", from: a}, call{what: "MakeLink", from: a}, call{what: "MakeFile", from: a, text: "\x00"})
		for _, b := range smallPlaces() {
			for _, c := range callsOfTwo() {
				all = append(all, c.at(a, b))
			}
		}
	}
	return all
}

// P10.1, P10.2: every call on small trees, against the chapter's table and the second way; P10.3: what is refused changes
// nothing.
func TestEveryCallOnSmallTrees(t *testing.T) {
	calls := smallCalls()
	for _, root := range smallRoots() {
		first, before := treeOf(t, root), flatOf(root)
		for _, c := range calls {
			tree, flat := first.Clone(), maps.Clone(before)
			want := errorOf(flat, c)
			if got := c.on(tree); got != want {
				t.Fatalf("%+v on %v: %d; want %d", c, root, got, want)
			}
			if want != api.OK && !ftree.Same(tree.Root(), root) {
				t.Fatalf("%+v on %v is refused, and leaves %v", c, root, tree.Root())
			}
			if want == api.OK {
				flat.do(c)
			}
			checkFlat(t, c, tree, flat)
			if t.Failed() {
				return
			}
		}
	}
}
