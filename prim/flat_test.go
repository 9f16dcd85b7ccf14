package prim_test

import (
	"maps"
	"strings"
	"testing"

	"touchstone/api"
	"touchstone/ftree"
)

// spot is what a node has itself: its Kind and its text.
type spot struct {
	kind uint8
	text string
}

// flat is the second way to a tree: what stands at each place at which something stands, by the place's key.
type flat map[string]spot

// key is a place as a text: just the keys of what is below a place begin by its key.
func key(at []string) string {
	var text strings.Builder
	for _, name := range at {
		text.WriteString(name + "/")
	}
	return text.String()
}

// add has a node stand at a key, with all that is below it.
func (f flat) add(at string, n api.Node) {
	f[at] = spot{n.Kind, n.Text}
	for i, name := range n.Names {
		f.add(at+name+"/", n.Kids[i])
	}
}

func flatOf(n api.Node) flat {
	f := flat{}
	f.add("", n)
	return f
}

// del has nothing stand at a place.
func (f flat) del(at []string) {
	maps.DeleteFunc(f, func(k string, _ spot) bool { return strings.HasPrefix(k, key(at)) })
}

// set has a node stand at a place in the place of what stood there, or nothing, if it is Absent.
func (f flat) set(at []string, n api.Node) {
	f.del(at)
	if n.Kind != api.Absent {
		f.add(key(at), n)
	}
}

// copy has what stands at a place stand at another one, too, in the place of what stood there.
func (f flat) copy(from, to []string) {
	before := maps.Clone(f)
	f.del(to)
	for k, s := range before {
		if behind, ok := strings.CutPrefix(k, key(from)); ok {
			f[key(to)+behind] = s
		}
	}
}

// hasNames tells whether something stands below a place.
func (f flat) hasNames(at []string) bool {
	for k := range f {
		if len(k) > len(key(at)) && strings.HasPrefix(k, key(at)) {
			return true
		}
	}
	return false
}

// checkFlat checks the tree behind a call.
func checkFlat(t *testing.T, c call, tree *ftree.Tree, want flat) {
	t.Helper()
	then := tree.Root()
	if got := flatOf(then); !maps.Equal(got, want) {
		t.Errorf("behind %+v: %q; want %q", c, got, want)
	}
	if !ftree.Well(then) {
		t.Errorf("behind %+v the root is not well formed: %v", c, then)
	}
}
