package walk_test

import (
	"slices"
	"strconv"
	"strings"
	"testing"

	"touchstone/api"
	"touchstone/ftree"
	"touchstone/path"
	"touchstone/walk"
)

// named is a node with its name in a directory.
type named struct {
	name string
	node api.Node
}

func file(text string) api.Node           { return api.Node{Kind: api.File, Text: text} }
func link(text string) api.Node           { return api.Node{Kind: api.Link, Text: text} }
func in(name string, node api.Node) named { return named{name, node} }
func list(names ...string) []string       { return names }

// dir is a directory, its names in whatever row they are handed in.
func dir(kids ...named) api.Node {
	slices.SortFunc(kids, func(a, b named) int { return strings.Compare(a.name, b.name) })
	n := api.Node{Kind: api.Dir}
	for _, kid := range kids {
		n.Names, n.Kids = append(n.Names, kid.name), append(n.Kids, kid.node)
	}
	return n
}

func treeOf(t *testing.T, n api.Node) *ftree.Tree {
	t.Helper()
	tree, e := ftree.New(n)
	if e != api.OK {
		t.Fatalf("New: %d", e)
	}
	return tree
}

// What the calls answer is told by one text: an error's word, or the place as a path, a blank, and the Kind's word.
const (
	isNil  = "ErrNil"
	isNone = "ErrNone"
	isKind = "ErrKind"
	isLoop = "ErrLoop"
)

// told is an answer by its text.
func told(t *testing.T, place []string, kind uint8, e api.Errno) string {
	t.Helper()
	switch e {
	case api.OK:
		if int(kind) < 4 {
			return path.Show(place) + " " + list("absent", "file", "dir", "link")[kind]
		}
	case api.ErrNil, api.ErrNone, api.ErrKind, api.ErrLoop:
		if len(place) != 0 || kind != 0 {
			t.Errorf("beside error %d: place %q, Kind %d", e, place, kind)
		}
		return map[api.Errno]string{api.ErrNil: isNil, api.ErrNone: isNone, api.ErrKind: isKind, api.ErrLoop: isLoop}[e]
	}
	return "Kind " + strconv.Itoa(int(kind)) + ", error " + strconv.Itoa(int(e))
}

func find(t *testing.T, fs ftree.FS, p string) string {
	t.Helper()
	place, kind, e := walk.Find(fs, p)
	return told(t, place, kind, e)
}

func spot(t *testing.T, fs ftree.FS, p string) string {
	t.Helper()
	place, kind, e := walk.Spot(fs, p)
	return told(t, place, kind, e)
}

// row is a path, and what Find and Spot answer of it.
type row struct{ p, find, spot string }

// both is a row of a path of which Find and Spot answer the same.
func both(p, want string) row { return row{p, want, want} }

// checkRows checks rows over a tree.
func checkRows(t *testing.T, fs ftree.FS, rows ...row) {
	t.Helper()
	for _, r := range rows {
		if got := find(t, fs, r.p); got != r.find {
			t.Errorf("Find(%.90q) = %.200q; want %.200q", r.p, got, r.find)
		}
		if got := spot(t, fs, r.p); got != r.spot {
			t.Errorf("Spot(%.90q) = %.200q; want %.200q", r.p, got, r.spot)
		}
	}
}

// The chapter's examples.
func TestExamples(t *testing.T) {
	tree := treeOf(t, dir(in("d", dir(in("f", file("")))), in("l", link("d")), in("m", link("/l/f")), in("o", link("o")), in("n", link("d/x"))))
	checkRows(t, tree,
		row{"l/f", "/d/f file", "/d/f file"},
		row{"l", "/d dir", "/l link"},
		row{"l/", "/d dir", "/d dir"},
		row{"m", "/d/f file", "/m link"},
		row{"m/", isKind, isKind},
		row{"o", isLoop, "/o link"},
		row{"n", "/d/x absent", "/n link"},
		row{"n/y", isNone, isNone},
		row{"d/..", "/ dir", "/ dir"},
		row{"d/f/..", isKind, isKind},
	)
}

// plainTree is a tree without links.
func plainTree() api.Node {
	return dir(
		in("d", dir(in("e", dir(in("f", file("text")), in("g", dir()))), in("f", file("")))),
		in("f", file("d")),
		in("z", dir()),
		in("...", dir(in("f", file("")))),
		in(" ", file("")),
		in("\xff", dir(in(strings.Repeat("n", api.MaxName), file("")))),
	)
}

// P9.1: paths without steps lead to the root.
func TestNoSteps(t *testing.T) {
	for _, n := range []api.Node{dir(), plainTree()} {
		for _, p := range list("", "/", "//", "///////", ".", "./", "/.", "./.", "././", "/./", "//.//.//", strings.Repeat("/", api.MaxText+1), strings.Repeat("./", 1000)) {
			checkRows(t, treeOf(t, n), both(p, "/ dir"))
		}
	}
}

// P9.1: names, one below the other: directories, files, and nothing, in the midst and at the end.
func TestNames(t *testing.T) {
	checkRows(t, treeOf(t, plainTree()),
		both("d", "/d dir"), both("f", "/f file"), both("x", "/x absent"), both("z", "/z dir"), both("...", "/... dir"), both(" ", "/\x20 file"), both("\xff", "/\xff dir"),
		both("d/e", "/d/e dir"), both("d/f", "/d/f file"), both("d/x", "/d/x absent"), both("z/x", "/z/x absent"), both(".../f", "/.../f file"),
		both("d/e/f", "/d/e/f file"), both("d/e/g", "/d/e/g dir"), both("d/e/x", "/d/e/x absent"), both("d/e/g/x", "/d/e/g/x absent"),
		both("f/x", isKind), both("f/f", isKind), both("f/d", isKind), both("d/f/x", isKind), both("d/e/f/x", isKind), both("f/x/y/z", isKind), both(" /x", isKind),
		both("x/f", isNone), both("x/y/z", isNone), both("d/x/f", isNone), both("z/f/f", isNone), both("d/e/x/g", isNone), both("d/e/g/g/g", isNone),
	)
}

// P9.1: a path begins at the root, whether it begins by / or not, and more / are as one; so are dots of one between them.
func TestMoreOfThem(t *testing.T) {
	tree := treeOf(t, plainTree())
	for _, ahead := range list("", "/", "//", "./", "/./", ".//.//", "../", "/../", "z/../", "d/e/../../") {
		for _, between := range list("/", "//", "/./", "////", "/././", "/./././/./", "/../d/e/../", "/f/../") {
			if between == "/f/../" {
				checkRows(t, tree, both(ahead+"d"+between+"f", isKind))
				continue
			}
			checkRows(t, tree,
				both(ahead+"d"+between+"f", "/d/f file"), both(ahead+"d"+between+"e", "/d/e dir"), both(ahead+"d"+between+"x", "/d/x absent"),
				both(ahead+"d"+between+"x/y", isNone), both(ahead+"d"+between+"f/y", isKind), both(ahead+"d"+between+".", "/d dir"),
			)
		}
	}
}

// P9.1: two dots at the root, below it, in the midst, at the end, behind a file, and behind nothing.
func TestTwoDots(t *testing.T) {
	checkRows(t, treeOf(t, plainTree()),
		both("..", "/ dir"), both("/..", "/ dir"), both("../..", "/ dir"), both("/../../../", "/ dir"), both("../d", "/d dir"), both("../../f", "/f file"), both("../x", "/x absent"),
		both("d/..", "/ dir"), both("d/../", "/ dir"), both("d/../.", "/ dir"), both("d/../..", "/ dir"), both("d/../../d", "/d dir"), both("z/..", "/ dir"), both("z/../x", "/x absent"),
		both("d/e/..", "/d dir"), both("d/e/../..", "/ dir"), both("d/e/g/../..", "/d dir"), both("d/e/g/../../f", "/d/f file"), both("d/e/g/../f", "/d/e/f file"), both("d/e/../e/../x", "/d/x absent"),
		both("f/..", isKind), both("f/../d", isKind), both("d/f/..", isKind), both("d/f/../e", isKind), both("d/e/f/../..", isKind), both("f/../..", isKind), both("f/./..", isKind),
		both("x/..", isNone), both("x/../d", isNone), both("d/x/..", isNone), both("d/x/../f", isNone), both("z/x/../..", isNone), both("x//..", isNone), both("x/../..", isNone),
		both(".../..", "/ dir"), both("..d", "/..d absent"), both("d/..d/..", isNone), both("...//f", "/.../f file"),
	)
}

// P9.1: what asks for a directory at its end: a file is refused; where nothing stands, its place is told.
func TestDirectoryAskedFor(t *testing.T) {
	tree := treeOf(t, plainTree())
	for _, end := range list("/", "//", "/.", "/./", "/./.", "//.//") {
		checkRows(t, tree,
			both("d"+end, "/d dir"), both("d/e"+end, "/d/e dir"), both("d/e/g"+end, "/d/e/g dir"), both("z"+end, "/z dir"), both("d/.."+end, "/ dir"), both("d/e/../e"+end, "/d/e dir"), both("..."+end, "/... dir"),
			both("f"+end, isKind), both("d/f"+end, isKind), both("d/e/f"+end, isKind), both("d/../f"+end, isKind), both("f/.."+end, isKind), both("f/x"+end, isKind),
			both("x"+end, "/x absent"), both("d/x"+end, "/d/x absent"), both("z/x"+end, "/z/x absent"), both("d/../x"+end, "/x absent"), both("x/y"+end, isNone), both("x/.."+end, isNone),
		)
	}
}

// P9.1: steps that are no names: nothing stands there; and paths of more bytes than a utility may be called with.
func TestNoNames(t *testing.T) {
	tree := treeOf(t, plainTree())
	longest := strings.Repeat("n", api.MaxName)
	for _, step := range list("\x00", "\n", "d\n", "d\x00", "\x00d", "f\x00", longest+"n", strings.Repeat("n", 100000)) {
		for _, below := range list("", "/d", "/d/e") {
			checkRows(t, tree,
				both(below+"/"+step, below+"/"+step+" absent"), both(below+"/"+step+"/", below+"/"+step+" absent"),
				both(below+"/"+step+"/d", isNone), both(below+"/"+step+"/..", isNone), both(below+"/f/"+step, isKind),
			)
		}
	}
	checkRows(t, tree,
		both("\xff/"+longest, "/\xff/"+longest+" file"), both("\xff/"+longest+"n", "/\xff/"+longest+"n absent"), both("\xff/"+longest+"/", isKind), both("\xff/"+longest[1:], "/\xff/"+longest[1:]+" absent"),
		both(strings.Repeat("/", api.MaxText)+"d", "/d dir"), both(strings.Repeat("d/../", 100)+"d/f", "/d/f file"), both(strings.Repeat("../", 10000)+"x", "/x absent"),
		both(strings.Repeat("d/../", 1<<18)+"f", "/f file"), both(strings.Repeat("d/../", 1<<18)+"f/", isKind), both(strings.Repeat("x/", 1<<18), isNone),
	)
}

// P9.1: what is wrong first on the way is answered.
func TestFirstRefusal(t *testing.T) {
	tree := treeOf(t, dir(in("f", file("")), in("o", link("o")), in("lf", link("f/x")), in("lx", link("x/f")), in("d", dir())))
	for _, behind := range list("/", "/d", "/f/x", "/x/f", "/o/f", "/..", "/../o", "/../f/", "/../x/f") {
		if behind != "/" {
			checkRows(t, tree, both("x"+behind, isNone))
		}
		checkRows(t, tree,
			both("f"+behind, isKind), both("d/../f"+behind, isKind), both("lf"+behind, isKind),
			both("d/x/x"+behind, isNone), both("lx"+behind, isNone),
			both("o"+behind, isLoop), both("d/../o"+behind, isLoop), both("./o"+behind, isLoop),
		)
	}
}

// P9.1: no file system, whatever the path; one that is a nil object is none.
func TestNoFileSystem(t *testing.T) {
	var none *ftree.Tree
	for _, p := range list("", "/", "..", "a", "a/", "a/b", "/a/../b", "\x00", strings.Repeat("a/", 1000)) {
		checkRows(t, nil, both(p, isNil))
		checkRows(t, none, both(p, isNil))
		checkRows(t, none.Clone(), both(p, isNil))
	}
}

// R1: paths that go further down than a tree may, where directories were put there.
func TestDeeperThanATree(t *testing.T) {
	const depth = 600
	tree := treeOf(t, dir())
	var place []string
	for range depth {
		place = append(place, "d")
		tree.Put(place, dir())
	}
	tree.Put(append(place, "l"), link(strings.Repeat("../", 50)+"d"))
	deep := path.Show(place)
	checkRows(t, tree,
		both(deep, deep+" dir"), both(deep+"/x", deep+"/x absent"), both(deep+"/d/x", isNone), both(deep+strings.Repeat("/..", depth), "/ dir"), both(deep+strings.Repeat("/..", depth+1)+"/d", "/d dir"),
		row{deep + "/l", path.Show(place[:depth-49]) + " dir", deep + "/l link"}, both(deep+"/l/..", path.Show(place[:depth-50])+" dir"),
	)
}
