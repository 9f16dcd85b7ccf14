package moves_test

import (
	"slices"
	"strings"
	"testing"

	"touchstone/api"
	"touchstone/ftree"
	"touchstone/path"
)

// flat is the second way to a tree: what stands at each place at which something stands, by the place's key: / for a
// directory, = and its text for a file, > and its text for a link.
type flat map[string]string

// key is a place as a path; the root's is the empty text.
func key(place []string) string { return strings.TrimSuffix(path.Show(place), "/") }

// isUnder tells whether what stands at one key is, or stands below, what stands at another one.
func isUnder(above, at string) bool { return strings.HasPrefix(at+"/", above+"/") }

func (f flat) add(at string, n api.Node) {
	f[at] = string(" =/>"[n.Kind]) + n.Text
	for i, name := range n.Names {
		f.add(at+"/"+name, n.Kids[i])
	}
}

func flatOf(n api.Node) flat {
	f := flat{}
	f.add("", n)
	return f
}

// del has nothing stand at a key, nor below it.
func (f flat) del(at string) {
	for k := range f {
		if isUnder(at, k) {
			delete(f, k)
		}
	}
}

// part is what stands at a key, and below it, by the ends of the keys.
func (f flat) part(at string) flat {
	part := flat{}
	for k, s := range f {
		if isUnder(at, k) {
			part[k[len(at):]] = s
		}
	}
	return part
}

// put has that stand at a key, in the place of what stood there.
func (f flat) put(at string, part flat) {
	f.del(at)
	for end, s := range part {
		f[at+end] = s
	}
}

// nodeOf is a directory in which that stands: behind a directory's path there is / , behind a file's = and its text,
// behind a link's > and its text. The directories on the way need not be told.
func nodeOf(texts ...string) api.Node {
	tree, _ := ftree.New(api.Node{Kind: api.Dir})
	for _, text := range texts {
		n, at := api.Node{Kind: api.Dir}, text
		if i := strings.IndexAny(text, "=>"); i >= 0 {
			n, at = api.Node{Kind: api.File, Text: text[i+1:]}, text[:i]
			if text[i] == '>' {
				n.Kind = api.Link
			}
		}
		place := path.Clean(at)
		for i := range place {
			if tree.Kind(place[:i]) == api.Absent {
				tree.Put(place[:i], api.Node{Kind: api.Dir})
			}
		}
		tree.Put(place, n)
	}
	return tree.Root()
}

func treeOf(t *testing.T, n api.Node) *ftree.Tree {
	t.Helper()
	tree, e := ftree.New(n)
	if e != api.OK {
		t.Fatalf("New: %d", e)
	}
	return tree
}

// changes are what is other in a tree then than in one before: - ahead of what is no more, + ahead of what is new.
func changes(before, then flat) string {
	var all []string
	for at, s := range before {
		if then[at] != s {
			all = append(all, "-"+strings.TrimPrefix(at, "/")+s)
		}
	}
	for at, s := range then {
		if before[at] != s {
			all = append(all, "+"+strings.TrimPrefix(at, "/")+s)
		}
	}
	slices.Sort(all)
	return strings.Join(all, " ")
}
