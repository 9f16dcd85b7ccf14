package dirs_test

import (
	"maps"
	"slices"
	"strings"
	"testing"

	"touchstone/api"
	"touchstone/ftree"
)

// spot is what a node has itself: its Kind and its text.
type spot struct {
	kind uint8
	text string
}

// flat is the second way to a tree: what stands at each place at which something stands, by the place's key.
type flat map[string]spot

// key is a place as a text: just the keys of what is below a place begin by its key.
func key(at []string) string {
	var text strings.Builder
	for _, name := range at {
		text.WriteString(name + "/")
	}
	return text.String()
}

// add has a node stand at a key, with all that is below it.
func (f flat) add(at string, n api.Node) {
	f[at] = spot{n.Kind, n.Text}
	for i, name := range n.Names {
		f.add(at+name+"/", n.Kids[i])
	}
}

func flatOf(n api.Node) flat {
	f := flat{}
	f.add("", n)
	return f
}

// below are the names of what stands in the directory of a key, rising.
func (f flat) below(at string) (names []string) {
	for k := range f {
		if name, ok := strings.CutPrefix(k, at); ok && strings.Count(name, "/") == 1 {
			names = append(names, strings.TrimSuffix(name, "/"))
		}
	}
	slices.Sort(names)
	return names
}

// node is what stands at a key as a node.
func (f flat) node(at string) api.Node {
	n := api.Node{Kind: f[at].kind, Text: f[at].text}
	if n.Kind == api.Dir {
		for _, name := range f.below(at) {
			n.Names, n.Kids = append(n.Names, name), append(n.Kids, f.node(at+name+"/"))
		}
	}
	return n
}

// del has nothing stand at a key, nor below it.
func (f flat) del(at string) {
	maps.DeleteFunc(f, func(k string, _ spot) bool { return strings.HasPrefix(k, at) })
}

// stands tells of a text what stands where: a directory ends by / , behind a file's place there is = and its text, behind
// a link's > and its text.
func stands(text string) (string, spot) {
	i := strings.IndexAny(text, "=>")
	if i < 0 {
		return text, spot{kind: api.Dir}
	}
	kind := api.File
	if text[i] == '>' {
		kind = api.Link
	}
	return text[:i] + "/", spot{kind, text[i+1:]}
}

// shown is the text of what stands at a key.
func shown(at string, s spot) string {
	return strings.TrimSuffix(at, "/") + map[uint8]string{api.Dir: "/", api.File: "=", api.Link: ">"}[s.kind] + s.text
}

// nodeOf is a directory in which that stands; the directories on the way need not be told.
func nodeOf(texts ...string) api.Node {
	f := flat{"": {kind: api.Dir}}
	for _, text := range texts {
		at, s := stands(text)
		f[at] = s
		for i := range len(at) - 1 {
			if at[i] == '/' {
				f[at[:i+1]] = spot{kind: api.Dir}
			}
		}
	}
	return f.node("")
}

func treeOf(t *testing.T, n api.Node) *ftree.Tree {
	t.Helper()
	tree, e := ftree.New(n)
	if e != api.OK {
		t.Fatalf("New: %d", e)
	}
	return tree
}

// changes are what is other in a tree then than in one before: - ahead of what is no more, + ahead of what is new.
func changes(before, then flat) string {
	var all []string
	for at, s := range before {
		if then[at] != s {
			all = append(all, "-"+shown(at, s))
		}
	}
	for at, s := range then {
		if before[at] != s {
			all = append(all, "+"+shown(at, s))
		}
	}
	slices.Sort(all)
	return strings.Join(all, " ")
}
