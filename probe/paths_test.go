package probe_test

import (
	"strings"
	"testing"

	"touchstone/api"
	"touchstone/ftree"
)

// checkPath checks what is asked of a path: just these letters hold.
func checkPath(t *testing.T, tree *ftree.Tree, p, letters string) {
	t.Helper()
	for _, letter := range "efdLh" {
		does, doesNot := fails, holds
		if strings.ContainsRune(letters, letter) {
			does, doesNot = holds, fails
		}
		checkTest(t, tree, does, "-"+string(letter), p)
		checkTest(t, tree, doesNot, "!", "-"+string(letter), p)
		checkTest(t, tree, does, "!", "!", "-"+string(letter), p)
	}
}

// checkPaths checks that of each of these paths just these letters hold.
func checkPaths(t *testing.T, letters string, paths ...string) {
	t.Helper()
	for _, p := range paths {
		checkPath(t, sample(t), p, letters)
	}
}

// P14.1, P14.5: a file, a directory, the root, and nothing.
func TestKinds(t *testing.T) {
	checkPaths(t, "ef", "f", "/f", "//f", "./f", "../f", "d/../f", "none", "d/f", "d//f", "d/./f", "/d/e/../f", "d/up/f", "d/up/d/f", "!", "=", "-e")
	checkPaths(t, "ed", "d", "e", "d/e", "/d", "d/", "d//", "d/.", "d/./", "d/..", "d/../", "d/e/..", "-f", "]", "]/")
	checkPaths(t, "ed", "/", "//", ".", "./", "..", "../..", "/..", "d/../..", "/./..//")
	checkPaths(t, "", "x", "/x", "d/x", "x/", "x/.", "d/x/", "F", "f ", " f", "-n", "-L", "~")
}

// P14.1, P14.5: links to each of them, links to links, and links that lead nowhere.
func TestLinks(t *testing.T) {
	checkPaths(t, "efLh", "to-f", "/to-f", "d/../to-f", "to-df", "d/l", "to-l", "d/up/to-f", "to-d/l")
	checkPaths(t, "edLh", "to-d", "./to-d", "to-e", "to-link", "to-root", "d/up", "to-d-slash", "to-d/up", "d/up/d/up")
	checkPaths(t, "Lh", "to-x", "to-dx", "to-xy", "to-fx", "to-itself", "to-f-slash", "to-x-slash")
	// A link on the way, and one that is gone into, is none at the end.
	checkPaths(t, "ef", "to-d/f", "to-link/f", "to-root/f", "d/up/f", "to-root/d/up/d/f")
	checkPaths(t, "ed", "to-d/", "to-d/.", "to-d//", "to-link/", "to-root/", "d/up/", "d/up/.", "to-d/e", "to-d/..", "to-d/e/..", "to-link/up/e", "to-d-slash/")
	checkPaths(t, "", "to-x/", "to-x/.", "to-dx/", "to-x-slash/", "to-d/x", "to-root/x", "to-link/x/")
}

// P14.1, P14.5: paths whose way is refused, and such as ask for a directory where none is.
func TestRefusedWays(t *testing.T) {
	checkPaths(t, "", "f/", "f/.", "f//", "f/x", "f/..", "f/../f", "d/f/", "d/f/.", "d/f/..", "none/", "f/x/y")
	checkPaths(t, "", "x/y", "x/..", "x/../f", "x/f", "x/../d", "d/x/y", "d/x/../f")
	checkPaths(t, "", "to-f/", "to-f/.", "to-f/x", "to-f/..", "to-x/y", "to-x/..", "to-xy/", "to-fx/", "to-fx/z", "to-f-slash/", "to-df/", "d/l/", "d/l/..")
	checkPaths(t, "", "to-itself/", "to-itself/.", "to-itself/x", "to-itself/..", "to-itself/../f")
}

// P14.1, P14.5: as many links as there may be, and one more; those on the way count, too.
func TestManyLinks(t *testing.T) {
	checkPaths(t, "efLh", "c1", "c2", "c7", "c8", "to-root/c7", "to-link/../c6", "to-root/to-root/c6")
	checkPaths(t, "Lh", "c9", "d/../c9", "to-root/c8", "to-root/c9", "to-link/../c7", "to-root/to-root/c7")
	checkPaths(t, "", "c1/", "c8/", "c9/", "c9/.", "c9/x", "c9/..", "to-root/c8/")
	ups := strings.Repeat("d/up/", api.MaxLinks-1)
	checkPaths(t, "ef", ups+"d/up/f", ups+"f")
	checkPaths(t, "efLh", ups+"to-f")
	checkPaths(t, "Lh", ups+"d/up/to-f")
	checkPaths(t, "ed", ups+"d/up/d", ups+"d/up/", ups+"d/up/..")
	checkPaths(t, "edLh", ups+"d/up", ups+"to-d")
	checkPaths(t, "Lh", ups+"d/up/to-d", ups+"to-link")
	checkPaths(t, "", ups+"d/up/d/up/", ups+"d/up/d/up/f", ups+"d/up/to-d/", ups+"d/up/to-d/f", ups+"to-link/f")
}

// P14.1, P14.5: what path.Check refuses is not, though what it would lead to is.
func TestRefusedPaths(t *testing.T) {
	checkPaths(t, "", "", "\x00", "f\x00", "\x00f", "d/\x00/../f", "d/f\x00", "\n", "f\n", "\nf", "d/\n/../f", "d/\n", "f/\n", "to-f\n", "d\n/f")
	for _, x := range []struct{ end, letters string }{{"f", "ef"}, {"d", "ed"}, {"d/", "ed"}, {"to-f", "efLh"}, {"to-d", "edLh"}, {"to-x", "Lh"}, {"to-d/f", "ef"}, {"", "ed"}, {"x", ""}} {
		most := strings.Repeat("/", api.MaxText-len(x.end)) + x.end
		checkPaths(t, x.letters, most, most[1:], "."+most[1:])
		checkPaths(t, "", "/"+most, "."+most, "//"+most, strings.Repeat("/", 1000)+most)
		if x.end != "" {
			checkPaths(t, x.letters, strings.Repeat("./", 50)+x.end, strings.Repeat("../", 50)+x.end)
			checkPaths(t, "", strings.Repeat("./", 150)+x.end, strings.Repeat("../", 150)+x.end)
		}
	}
	name := strings.Repeat("n", api.MaxName)
	checkPaths(t, "ef", name, "/"+name, "d/../"+name)
	checkPaths(t, "", name+"n", name[1:], name+"/", name+"n/../f", "d/"+name+"n/../f", "d/"+name)
}

// P14.1: a path of each byte: a file of that name is there where it is a name.
func TestBytesOfPaths(t *testing.T) {
	for b := range 256 {
		name := string([]byte{byte(b)})
		tree := treeOf(t)
		tree.Put(list(name), api.Node{Kind: api.File})
		switch name {
		case "\x00", "\n":
			checkPath(t, tree, name, "")
		case "/", ".":
			checkPath(t, tree, name, "ed")
		default:
			checkPath(t, tree, name, "ef")
			checkPath(t, tree, name+name, "")
		}
	}
}

// P14.1: over the smallest tree, and over a deep one.
func TestSmallAndDeep(t *testing.T) {
	checkPath(t, treeOf(t), "/", "ed")
	checkPath(t, treeOf(t), "a", "")
	var texts []string
	at := ""
	for range api.MaxDepth - 1 {
		at += "d/"
		texts = append(texts, at)
	}
	deep := treeOf(t, append(texts, at+"l>.", at+"f=")...)
	checkPath(t, deep, at, "ed")
	checkPath(t, deep, at+"d", "")
	checkPath(t, deep, at+"f", "ef")
	checkPath(t, deep, at+"l", "edLh")
	checkPath(t, deep, at+"l/l/f", "ef")
}
