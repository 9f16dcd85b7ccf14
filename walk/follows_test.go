package walk_test

import (
	"math/rand"
	"slices"
	"strings"
	"testing"

	"touchstone/api"
	"touchstone/ftree"
	"touchstone/path"
	"touchstone/walk"
)

// second is the second way to where a path leads: what a link's text leads to is found by itself, ahead of all that is
// behind the link.
type second struct {
	fs    ftree.FS
	links int
}

// leadsTo is where a text leads to from a directory; it may be asked for another one at its end.
func (s *second) leadsTo(from []string, text string, asked, follow bool) ([]string, uint8, api.Errno) {
	at := slices.Clone(from)
	if strings.HasPrefix(text, "/") {
		at = nil
	}
	pieces := strings.Split(text, "/")
	asked = asked || len(text) > 0 && slices.Contains(list("", ".", ".."), pieces[len(pieces)-1])
	steps := slices.DeleteFunc(pieces, func(p string) bool { return p == "" || p == "." })
	for i, step := range steps {
		if step == ".." {
			at = at[:max(0, len(at)-1)]
			continue
		}
		place, kind, e := s.standsAt(append(slices.Clone(at), step), i == len(steps)-1, asked, follow)
		switch {
		case e != api.OK:
			return nil, 0, e
		case i == len(steps)-1 && (kind != api.File || !asked):
			return place, kind, api.OK
		case kind == api.File:
			return nil, 0, api.ErrKind
		case kind == api.Absent:
			return nil, 0, api.ErrNone
		}
		at = place
	}
	return at, api.Dir, api.OK
}

// standsAt is a place, or where the link there leads to, if it is one that is followed.
func (s *second) standsAt(place []string, last, asked, follow bool) ([]string, uint8, api.Errno) {
	kind := s.fs.Kind(place)
	if kind != api.Link || last && !asked && !follow {
		return place, kind, api.OK
	}
	s.links++
	if s.links > api.MaxLinks {
		return nil, 0, api.ErrLoop
	}
	return s.leadsTo(place[:len(place)-1], s.fs.Text(place), last && asked, true)
}

// checkPath checks a path by the second way, and what follows from the promise.
func checkPath(t *testing.T, fs ftree.FS, p string) {
	t.Helper()
	place, kind, e := (&second{fs: fs}).leadsTo(nil, p, false, true)
	wantFind := told(t, place, kind, e)
	place, kind, e = (&second{fs: fs}).leadsTo(nil, p, false, false)
	checkRows(t, fs, row{p, wantFind, told(t, place, kind, e)})
	if t.Failed() {
		t.Fatalf("path %q over %q", p, shownTree(fs))
	}
	checkReal(t, fs, p)
	checkFurther(t, fs, p)
}

// shownTree are the lines of a tree, if it is one.
func shownTree(fs ftree.FS) (lines []string) {
	if tree, ok := fs.(*ftree.Tree); ok {
		var show func(at []string, n api.Node)
		show = func(at []string, n api.Node) {
			lines = append(lines, path.Show(at)+" "+list("absent", "file", "dir", "link")[n.Kind]+" "+n.Text)
			for i, name := range n.Names {
				show(append(slices.Clone(at), name), n.Kids[i])
			}
		}
		show(nil, tree.Root())
	}
	return lines
}

// checkReal checks P9.2: directories alone on the way, the place's path leads to it, Find tells no Link.
func checkReal(t *testing.T, fs ftree.FS, p string) {
	t.Helper()
	for _, call := range []func(ftree.FS, string) ([]string, uint8, api.Errno){walk.Find, walk.Spot} {
		place, kind, e := call(fs, p)
		if e != api.OK {
			continue
		}
		for i := range place {
			if fs.Kind(place[:i]) != api.Dir {
				t.Fatalf("%q leads to %q: at %q is no directory", p, place, place[:i])
			}
		}
		again, kindAgain, e := call(fs, path.Show(place))
		if e != api.OK || !slices.Equal(again, place) || kind != kindAgain || fs.Kind(place) != kind {
			t.Fatalf("%q leads to %q, Kind %d; its path to %q, Kind %d, %d", p, place, kind, again, kindAgain, e)
		}
	}
	if _, kind, _ := walk.Find(fs, p); kind == api.Link {
		t.Fatalf("Find(%q) tells a Link", p)
	}
}

// linksOf is how many links Find follows on a path, by the second way.
func linksOf(fs ftree.FS, p string) int {
	s := &second{fs: fs}
	s.leadsTo(nil, p, false, true)
	return s.links
}

// checkFurther checks P9.4 of a path and some names.
func checkFurther(t *testing.T, fs ftree.FS, p string) {
	t.Helper()
	place, kind, e := walk.Find(fs, p)
	for _, name := range list("a", "b", "x") {
		want := map[uint8]string{api.File: isKind, api.Absent: isNone}[kind]
		further := path.Show(append(slices.Clone(place), name))
		if e != api.OK {
			// What is wrong on the way is wrong then, too.
			want = told(t, nil, 0, e)
		} else if kind == api.Dir && linksOf(fs, p)+linksOf(fs, further) > api.MaxLinks {
			// A path's links are counted together.
			want = isLoop
		} else if kind == api.Dir {
			want = find(t, fs, further)
		}
		if got := find(t, fs, p+"/"+name); got != want {
			t.Fatalf("Find(%q) = %q, Kind %d, %d; of it and %s: %q; want %q; over %q", p, place, kind, e, name, got, want, shownTree(fs))
		}
	}
}

// pathsOf are all paths of at most so many of these steps, and these with a / behind.
func pathsOf(most int, steps ...string) []string {
	all := list("", "/")
	before := list("")
	for range most {
		var longer []string
		for _, p := range before {
			for _, step := range steps {
				longer = append(longer, p+"/"+step)
			}
		}
		for _, p := range longer {
			all = append(all, p[1:], p+"/")
		}
		before = longer
	}
	return all
}

// P9.1 to P9.4: all short paths over all small trees, whose links have texts of all sorts.
func TestAllShortPaths(t *testing.T) {
	none := api.Node{}
	low := []api.Node{none, file(""), dir()}
	for _, text := range list("a", "b/", "..", ".", "/", "/a", "/b/", "../b", "../a/.", "/b/a/", "a/..") {
		low = append(low, link(text))
	}
	high := slices.Clone(low)
	for _, n := range low[1:] {
		high = append(high, dir(in("a", n)), dir(in("b", n)))
	}
	high = append(high, link("a/a"), link("b/a/"), link("b/a"), link("a/b/.."))
	paths := pathsOf(3, "a", "b", "..", ".")
	for _, a := range high {
		for _, b := range high {
			root := dir(in("a", a), in("b", b))
			for i := len(root.Kids) - 1; i >= 0; i-- {
				if root.Kids[i].Kind == api.Absent {
					root.Names, root.Kids = slices.Delete(root.Names, i, i+1), slices.Delete(root.Kids, i, i+1)
				}
			}
			tree := treeOf(t, root)
			for _, p := range paths {
				place, kind, e := (&second{fs: tree}).leadsTo(nil, p, false, true)
				wantFind := told(t, place, kind, e)
				place, kind, e = (&second{fs: tree}).leadsTo(nil, p, false, false)
				checkRows(t, tree, row{p, wantFind, told(t, place, kind, e)})
			}
			if t.Failed() {
				t.Fatalf("over %q", shownTree(tree))
			}
		}
	}
}

// somePath is any path of so many steps at most.
func somePath(random *rand.Rand, most int) string {
	var p strings.Builder
	steps := list("a", "a", "b", "b", "c", "c", "d", "x", "..", "..", ".", "", "...", "\n")
	for range random.Intn(most + 1) {
		p.WriteString(steps[random.Intn(len(steps))] + "/")
	}
	switch random.Intn(4) {
	case 0:
		return p.String()
	case 1:
		return "/" + strings.TrimSuffix(p.String(), "/")
	}
	return strings.TrimSuffix(p.String(), "/")
}

// someNode is any node of so many directories within one another at most.
func someNode(random *rand.Rand, depth int, links bool) api.Node {
	kind := random.Intn(9)
	if kind < 4 && links {
		if text := somePath(random, 4); text != "" {
			return link(text)
		}
	}
	if depth == 0 || kind == 4 {
		return file("")
	}
	return someDir(random, depth-1, links)
}

func someDir(random *rand.Rand, depth int, links bool) api.Node {
	var kids []named
	for _, name := range list("a", "b", "c", "d", "...") {
		if random.Intn(4) > 0 {
			kids = append(kids, in(name, someNode(random, depth, links)))
		}
	}
	return dir(kids...)
}

// P9.1, P9.2, P9.4: many paths over many trees.
func TestSomePaths(t *testing.T) {
	random := rand.New(rand.NewSource(9))
	kinds := map[string]int{}
	for range 3000 {
		tree := treeOf(t, someDir(random, 3, true))
		for range 30 {
			p := somePath(random, 9)
			checkPath(t, tree, p)
			answer := find(t, tree, p)
			kinds[answer[strings.LastIndexByte(answer, ' ')+1:]]++
		}
	}
	for _, kind := range list("absent", "file", "dir", isNone, isKind, isLoop) {
		if kinds[kind] < 500 {
			t.Errorf("of %q there are %d answers alone", kind, kinds[kind])
		}
	}
}

// P9.3: in a tree without links a path leads to what path.Clean is of it, if it is not refused.
func TestWithoutLinks(t *testing.T) {
	random := rand.New(rand.NewSource(93))
	led := 0
	for range 2000 {
		tree := treeOf(t, someDir(random, 3, false))
		for range 30 {
			p := somePath(random, 7)
			for _, call := range []func(ftree.FS, string) ([]string, uint8, api.Errno){walk.Find, walk.Spot} {
				place, kind, e := call(tree, p)
				clean := path.Clean(p)
				if e == api.OK && (!slices.Equal(place, clean) || kind != tree.Kind(clean)) {
					t.Fatalf("%q leads to %q, Kind %d", p, place, kind)
				}
				if e == api.OK {
					led++
				} else if e == api.ErrLoop || e == api.ErrNil {
					t.Fatalf("%q: %d", p, e)
				}
			}
			checkPath(t, tree, p)
		}
	}
	if led < 10000 {
		t.Errorf("%d paths were not refused", led)
	}
}
