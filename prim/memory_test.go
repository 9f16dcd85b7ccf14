package prim_test

import (
	"slices"
	"strings"
	"sync"
	"testing"
	"unsafe"

	"touchstone/api"
	"touchstone/ftree"
)

// loose is a text over bytes that may be written over.
func loose(text string) (string, []byte) {
	bytes := []byte(text + " ")
	return unsafe.String(&bytes[0], len(text)), bytes
}

// roomy is a call of its own memory, with room behind its places, and how to write over all of that.
func roomy(c call) (call, func()) {
	var bytes [][]byte
	own := func(p []string) []string {
		list := make([]string, 0, len(p)+2)
		for _, name := range p {
			text, under := loose(name)
			list, bytes = append(list, text), append(bytes, under)
		}
		return append(list, "room", "room")[:len(p)]
	}
	text, under := loose(c.text)
	bytes = append(bytes, under)
	c.from, c.to, c.text = own(c.from), own(c.to), text
	return c, func() {
		for _, l := range [][]string{c.from, c.to} {
			l = l[:cap(l)]
			for i := range l {
				l[i] = "written"
			}
		}
		for _, under := range bytes {
			clear(under)
		}
	}
}

// someCalls are calls that are not refused over the sample, and some that are.
func someCalls() []call {
	return []call{
		{what: "MakeDir", from: at("d/z")}, {what: "MakeFile", from: at("d/z"), text: "text"}, {what: "MakeLink", from: at("z"), text: "text"}, {what: "Touch", from: at("d/z")},
		{what: "RemoveDir", from: at("d/e")}, {what: "Unlink", from: at("d/f")}, {what: "RemoveAll", from: at("d/d")},
		{what: "Rename", from: at("d"), to: at("e/z")}, {what: "Rename", from: at("d"), to: at("e")}, {what: "Rename", from: at("f"), to: at("d/f")},
		{what: "Copy", from: at("d"), to: at("e/z"), deep: true}, {what: "Copy", from: at("l"), to: at("d/f")}, {what: "Copy", from: at("f"), to: at("d/z")},
		{what: "MakeDir", from: at("d/f")}, {what: "Rename", from: at("d"), to: at("d/z")}, {what: "Copy", from: at("f"), to: at("l/z")},
	}
}

// R3: what was handed in may be written over: its lists, the room behind them, its bytes.
func TestWritingOverArguments(t *testing.T) {
	for _, c := range someCalls() {
		tree, want := treeOf(t, sample()), treeOf(t, sample())
		own, write := roomy(c)
		if got, e := own.on(tree), c.on(want); got != e {
			t.Errorf("%+v: %d, in other memory %d", c, e, got)
		}
		write()
		if !ftree.Same(tree.Root(), want.Root()) {
			t.Errorf("%+v, written over: %v", c, tree.Root())
		}
	}
}

// appender is a file system that writes behind the places of directories that it is handed.
type appender struct{ ftree.FS }

func (x appender) Kind(p []string) uint8 {
	kind := x.FS.Kind(p)
	if kind == api.Dir {
		_ = append(p, "written")
	}
	return kind
}

// R3: what is handed in is not changed, whatever the file system does behind the places that it is asked of.
func TestArgumentsStay(t *testing.T) {
	for _, c := range someCalls() {
		for _, wrapped := range []bool{false, true} {
			tree, want := treeOf(t, sample()), treeOf(t, sample())
			var f ftree.FS = tree
			if wrapped {
				f = appender{tree}
			}
			own, _ := roomy(c)
			if wrapped {
				own.from, own.to = slices.Clip(own.from), slices.Clip(own.to)
			}
			if got, e := own.on(f), c.on(want); got != e || !ftree.Same(tree.Root(), want.Root()) {
				t.Errorf("%+v: %d, then %v; want %d", c, got, tree.Root(), e)
			}
			if !slices.Equal(own.from, c.from) || !slices.Equal(own.to, c.to) || own.text != c.text {
				t.Errorf("%+v became %+v", c, own)
			}
			for _, l := range [][]string{own.from, own.to} {
				if room := l[len(l):cap(l)]; strings.Join(room, "") != strings.Repeat("room", len(room)) {
					t.Errorf("%+v: behind a place stands %q", c, room)
				}
			}
		}
	}
}

// R3: nor are the places one list that is handed in twice, or pieces of one another.
func TestPlacesOfOneList(t *testing.T) {
	for _, text := range place("d/e", "d/d/f", "e/z", "f/z") {
		whole := at(text)
		for i := range len(whole) + 1 {
			for _, c := range callsOfTwo() {
				for _, x := range []call{c.at(whole[:i], whole), c.at(whole, whole[:i]), c.at(whole[:i], whole[:i])} {
					apart := c.at(slices.Clone(x.from), slices.Clone(x.to))
					tree, want := treeOf(t, sample()), treeOf(t, sample())
					if got, e := x.on(tree), apart.on(want); got != e || !ftree.Same(tree.Root(), want.Root()) {
						t.Errorf("%+v: %d; in lists of their own %d", x, got, e)
					}
				}
			}
		}
		if !slices.Equal(whole, at(text)) {
			t.Errorf("%q became %q", text, whole)
		}
	}
}

// R2: calls over file systems of their own don't see one another, also at the same time.
func TestAtTheSameTime(t *testing.T) {
	var wait sync.WaitGroup
	first := treeOf(t, sample())
	for _, c := range someCalls() {
		want := treeOf(t, sample())
		e := c.on(want)
		for range 4 {
			tree := first.Clone()
			wait.Go(func() {
				if got := c.on(tree); got != e || !ftree.Same(tree.Root(), want.Root()) {
					t.Errorf("%+v: %d; alone %d", c, got, e)
				}
			})
		}
	}
	wait.Wait()
	if !ftree.Same(first.Root(), sample()) {
		t.Errorf("the first tree is %v", first.Root())
	}
}
