package walk_test

import (
	"slices"
	"strings"
	"sync"
	"testing"
	"unsafe"

	"touchstone/api"
	"touchstone/ftree"
	"touchstone/path"
	"touchstone/walk"
)

// linked is a tree with links of several sorts.
func linked() api.Node {
	return chained(in("l", link("d/.")), in("tx", link("/d/x/")), in("o", link("o")), in("f", file("text")), in("lf", link("../d/f")), in("deep", dir(in("er", dir(in("l", link("../../c3")), in("f", file("")))))))
}

// linkedPaths are paths through that tree.
func linkedPaths() []string {
	return list("", "/", "..", "d", "d/f", "d/..", "d/s/s/f", "l", "l/", "l/f", "tx", "tx/", "tx/y", "o", "o/", "f", "f/", "f/x", "lf", "lf/", "lf/x", "x", "x/y", "c8", "c8/f", "c9", "c9/f", "deep/er/l", "deep/er/l/f", "deep/er/../er/l/../deep/er", "deep/er/f", "deep/er/f/..", "c4/../c4/../c4")
}

// spy is a file system that keeps what is asked of it, and the places that it was handed.
type spy struct {
	ftree.FS
	t      *testing.T
	asked  []string
	kept   [][]string
	copies [][]string
}

func (s *spy) keep(what string, place []string) {
	s.asked = append(s.asked, what+path.Show(place))
	s.kept, s.copies = append(s.kept, place), append(s.copies, slices.Clone(place))
}

func (s *spy) Kind(place []string) uint8 {
	if len(place) > 0 {
		s.keep("", place)
	}
	return s.FS.Kind(place)
}

func (s *spy) Text(place []string) string {
	s.keep("text ", place)
	return s.FS.Text(place)
}

func (s *spy) Empty(place []string) bool {
	s.t.Errorf("Empty of %q", place)
	return s.FS.Empty(place)
}

func (s *spy) Put(place []string, n api.Node) { s.t.Errorf("Put at %q", place) }
func (s *spy) Del(place []string)             { s.t.Errorf("Del of %q", place) }
func (s *spy) Move(from, to []string)         { s.t.Errorf("Move of %q to %q", from, to) }
func (s *spy) Copy(from, to []string)         { s.t.Errorf("Copy of %q to %q", from, to) }

// P9.1, R2: the tree is as it was; nothing is done to a file system.
func TestTreeStays(t *testing.T) {
	tree := treeOf(t, linked())
	for _, p := range linkedPaths() {
		walk.Find(&spy{FS: tree, t: t}, p)
		walk.Spot(&spy{FS: tree, t: t}, p)
		find(t, tree, p)
		spot(t, tree, p)
		if !ftree.Same(tree.Root(), linked()) {
			t.Fatalf("behind %q the tree is %q", p, shownTree(tree))
		}
	}
}

// What is asked of a file system: of each name the Kind, of a link that is followed its text, of no other.
func TestWhatIsAsked(t *testing.T) {
	tree := treeOf(t, linked())
	for _, x := range []struct {
		p          string
		find, spot string
	}{
		{"", "", ""}, {"../.", "", ""}, {"f", "/f", "/f"}, {"x/y", "/x", "/x"}, {"f/x", "/f", "/f"}, {"d/../f", "/d,/f", "/d,/f"}, {"d/f", "/d,/d/f", "/d,/d/f"},
		{"l", "/l,text /l,/d", "/l"}, {"l/f", "/l,text /l,/d,/d/f", "/l,text /l,/d,/d/f"}, {"tx/", "/tx,text /tx,/d,/d/x", "/tx,text /tx,/d,/d/x"},
		{"deep/er/l", "/deep,/deep/er,/deep/er/l,text /deep/er/l,/c3,text /c3,/c2,text /c2,/c1,text /c1,/d", "/deep,/deep/er,/deep/er/l"},
		{"o", "/o" + strings.Repeat(",text /o,/o", api.MaxLinks), "/o"},
		{"o/", "/o" + strings.Repeat(",text /o,/o", api.MaxLinks), "/o" + strings.Repeat(",text /o,/o", api.MaxLinks)},
	} {
		s := &spy{FS: tree, t: t}
		walk.Find(s, x.p)
		if got := strings.Join(s.asked, ","); got != x.find {
			t.Errorf("Find(%q) asks %q; want %q", x.p, got, x.find)
		}
		s = &spy{FS: tree, t: t}
		walk.Spot(s, x.p)
		if got := strings.Join(s.asked, ","); got != x.spot {
			t.Errorf("Spot(%q) asks %q; want %q", x.p, got, x.spot)
		}
	}
}

// thrower is a file system that throws where one place is asked of.
type thrower struct {
	ftree.FS
	at   string
	text bool
}

func (x thrower) Kind(place []string) uint8 {
	if path.Show(place) == x.at && !x.text {
		panic(x.at)
	}
	return x.FS.Kind(place)
}

func (x thrower) Text(place []string) string {
	if path.Show(place) == x.at && x.text {
		panic(x.at)
	}
	return x.FS.Text(place)
}

// What a file system throws goes on to the caller, as chapter 23 needs it.
func TestThrown(t *testing.T) {
	thrown := func(fs ftree.FS, p string) (what any) {
		defer func() { what = recover() }()
		walk.Find(fs, p)
		return nil
	}
	tree := treeOf(t, linked())
	for _, x := range []struct {
		fs   thrower
		p    string
		want any
	}{
		{thrower{tree, "/d", false}, "d/f", "/d"}, {thrower{tree, "/d/f", false}, "l/f", "/d/f"}, {thrower{tree, "/l", true}, "l/f", "/l"}, {thrower{tree, "/c1", true}, "c3", "/c1"},
		{thrower{tree, "/d", false}, "f", nil}, {thrower{tree, "/d/f", false}, "l/..", nil}, {thrower{tree, "/c1", true}, "c9", nil}, {thrower{tree, "/d", true}, "d", nil}, {thrower{tree, "/f", true}, "f", nil},
	} {
		if got := thrown(x.fs, x.p); got != x.want {
			t.Errorf("Find(%q), where %q throws: %v; want %v", x.p, x.fs.at, got, x.want)
		}
	}
}

// overwrite writes over a place, and the room behind it.
func overwrite(place []string) {
	place = place[:cap(place)]
	for i := range place {
		place[i] = "written"
	}
}

// R3: what the caller writes over an answer is seen nowhere: not in later answers, nor in what a file system was handed.
func TestWritingOverAnswers(t *testing.T) {
	tree := treeOf(t, linked())
	for _, p := range linkedPaths() {
		wantFind, wantSpot := find(t, tree, p), spot(t, tree, p)
		for _, call := range []func(ftree.FS, string) ([]string, uint8, api.Errno){walk.Find, walk.Spot} {
			s := &spy{FS: tree, t: t}
			first, _, _ := call(s, p)
			other, kind, e := call(s, p)
			want := told(t, other, kind, e)
			overwrite(first)
			if got := told(t, other, kind, e); got != want {
				t.Errorf("%q: an answer became %q", p, got)
			}
			for i := range s.kept {
				if !slices.Equal(s.kept[i], s.copies[i]) {
					t.Errorf("%q: the place %q became %q", p, s.copies[i], s.kept[i])
				}
			}
		}
		checkRows(t, tree, row{p, wantFind, wantSpot})
		if !ftree.Same(tree.Root(), linked()) {
			t.Fatalf("behind %q the tree is %q", p, shownTree(tree))
		}
	}
}

// piece is memory from one byte on up to another one.
type piece struct{ from, end uintptr }

func pieceOf(s string) piece {
	begin := uintptr(unsafe.Pointer(unsafe.StringData(s)))
	return piece{begin, begin + uintptr(len(s))}
}

// texts is a file system that tells the same texts each time, in its own memory.
type texts struct {
	*ftree.Tree
	told map[string]string
}

func (x texts) Text(place []string) string {
	at := path.Show(place)
	if _, ok := x.told[at]; !ok {
		x.told[at] = x.Tree.Text(place)
	}
	return x.told[at]
}

// R3: the bytes of an answer's names are neither those of the path nor those of a link's text.
func TestNamesAreApart(t *testing.T) {
	fs := texts{treeOf(t, linked()), map[string]string{}}
	for _, p := range linkedPaths() {
		p = strings.Clone(p)
		for _, call := range []func(ftree.FS, string) ([]string, uint8, api.Errno){walk.Find, walk.Spot} {
			place, _, _ := call(fs, p)
			all := []piece{pieceOf(p)}
			for _, text := range fs.told {
				all = append(all, pieceOf(text))
			}
			for _, name := range place {
				got := pieceOf(name)
				if slices.ContainsFunc(all, func(x piece) bool { return x.from < got.end && got.from < x.end }) {
					t.Errorf("%q: the name %q shares memory", p, name)
				}
			}
		}
	}
}

// R2: calls at the same time answer as they do one by one.
func TestAtTheSameTime(t *testing.T) {
	tree := treeOf(t, linked())
	var all sync.WaitGroup
	for _, p := range linkedPaths() {
		r := row{p, find(t, tree, p), spot(t, tree, p)}
		for range 4 {
			all.Go(func() {
				for range 50 {
					checkRows(t, tree, r)
				}
			})
		}
	}
	all.Wait()
}
