package ftree

import (
	"slices"
	"strings"

	"touchstone/api"
	"touchstone/path"
)

// Well says whether a node is well formed.
func Well(n api.Node) bool {
	switch n.Kind {
	case api.File:
		return isText(n.Text) && len(n.Names) == 0 && len(n.Kids) == 0
	case api.Link:
		return n.Text != "" && isText(n.Text) && len(n.Names) == 0 && len(n.Kids) == 0
	case api.Dir:
		return n.Text == "" && areNames(n.Names) && len(n.Kids) == len(n.Names) && !slices.ContainsFunc(n.Kids, isIll)
	}
	return false
}

// isIll tells whether a node is not well formed.
func isIll(n api.Node) bool { return !Well(n) }

// isText tells whether a file may have a text.
func isText(s string) bool { return len(s) <= api.MaxText && !strings.Contains(s, "\x00") }

// areNames tells whether a directory may have a list of names.
func areNames(names []string) bool {
	for i, name := range names {
		if !path.Name(name) || i > 0 && names[i-1] >= name {
			return false
		}
	}
	return true
}

// May says whether a node is a tree.
func May(n api.Node) bool { return n.Kind == api.Dir && fits(n) && Well(n) }

// fits tells whether there are no more nodes, and none deeper, than a tree may have. It stops at the first one too many.
func fits(n api.Node) bool {
	left := api.MaxNodes
	var goDown func(n api.Node, depth int) bool
	goDown = func(n api.Node, depth int) bool {
		if left == 0 || depth > api.MaxDepth {
			return false
		}
		left--
		for _, kid := range n.Kids {
			if !goDown(kid, depth+1) {
				return false
			}
		}
		return true
	}
	return goDown(n, 0)
}

// Same says whether two nodes are the same.
func Same(a, b api.Node) bool {
	return a.Kind == b.Kind && a.Text == b.Text && slices.Equal(a.Names, b.Names) && slices.EqualFunc(a.Kids, b.Kids, Same)
}

// Nodes is how many nodes a node has.
func Nodes(n api.Node) int {
	count := 1
	for _, kid := range n.Kids {
		count += Nodes(kid)
	}
	return count
}

// At is the node at a place.
func At(n api.Node, place []string) (api.Node, bool) {
	if !Well(n) {
		return api.Node{}, false
	}
	there := below(n, place)
	return copyOf(there), there.Kind != api.Absent
}

// below is the node at a place of a well-formed one, or one that is Absent.
func below(n api.Node, place []string) api.Node {
	for _, name := range place {
		i, there := slices.BinarySearch(n.Names, name)
		if !there {
			return api.Node{}
		}
		n = n.Kids[i]
	}
	return n
}

// change is what is done at a place: of what stands there it makes what stands there then. Absent stands for nothing.
type change func(n api.Node) api.Node

// becomes is the change to a node, whatever stood there.
func becomes(n api.Node) change {
	return func(api.Node) api.Node { return n }
}

// changed is a node of which what stands at a place was changed. Where no directory leads to the place, it is as it was.
func changed(n api.Node, place []string, do change) api.Node {
	if len(place) == 0 {
		return do(n)
	}
	if n.Kind != api.Dir {
		return n
	}
	var kid api.Node
	i, there := slices.BinarySearch(n.Names, place[0])
	end := i
	if there {
		kid, end = n.Kids[i], i+1
	}
	kid = changed(kid, place[1:], do)
	if kid.Kind == api.Absent {
		return api.Node{Kind: api.Dir, Names: spliced(n.Names, i, end), Kids: spliced(n.Kids, i, end)}
	}
	return api.Node{Kind: api.Dir, Names: spliced(n.Names, i, end, strings.Clone(place[0])), Kids: spliced(n.Kids, i, end, kid)}
}

// spliced is a list with more in the place of what stands from an item on to another one.
func spliced[T any](list []T, from, end int, more ...T) []T {
	// Without room behind it the beginning can't run into what stands there, which other nodes may still have.
	beginning := list[:from:from]
	return append(append(beginning, more...), list[end:]...)
}

// copyOf is the same well-formed node in new memory.
func copyOf(n api.Node) api.Node {
	c := api.Node{Kind: n.Kind, Text: strings.Clone(n.Text)}
	for i, name := range n.Names {
		c.Names = append(c.Names, strings.Clone(name))
		c.Kids = append(c.Kids, copyOf(n.Kids[i]))
	}
	return c
}
