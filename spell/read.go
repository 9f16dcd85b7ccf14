package spell

import (
	"strconv"
	"strings"

	"touchstone/api"
	"touchstone/ftree"
	"touchstone/path"
)

// reader reads a node's text: it has what is left of it.
type reader struct{ left string }

// row is a node that is being read: so many names of it are still to come.
type row struct {
	node  api.Node
	names int
}

// node reads a node. The directories that are not read to their ends stand in a list, not on the way of calls, so that a
// text may go down however far.
func (r *reader) node() (api.Node, bool) {
	var open []row
	for {
		begun, ok := r.begin()
		if !ok {
			return api.Node{}, false
		}
		open = append(open, begun)
		for open[len(open)-1].names == 0 {
			last := len(open) - 1
			read := open[last].node
			open = open[:last]
			if last == 0 {
				return read, true
			}
			above := &open[last-1]
			above.node.Kids = append(above.node.Kids, read)
			above.names--
		}
		if !r.name(&open[len(open)-1].node) {
			return api.Node{}, false
		}
	}
}

// begin reads a File or a Link, or of a Dir how many names it has. One that is Absent is never well formed.
func (r *reader) begin() (row, bool) {
	kind := r.kind()
	if kind == api.Dir {
		names, ok := r.number()
		return row{api.Node{Kind: kind}, names}, ok
	}
	text, ok := r.counted()
	if !ok {
		return row{}, false
	}
	n := api.Node{Kind: kind, Text: text}
	return row{node: n}, ftree.Well(n)
}

// kind reads a node's letter. What is none stands for Absent.
func (r *reader) kind() uint8 {
	for _, kind := range [...]uint8{api.File, api.Link, api.Dir} {
		if behind, ok := strings.CutPrefix(r.left, letter(kind)); ok {
			r.left = behind
			return kind
		}
	}
	return api.Absent
}

// name reads the next name of a directory.
func (r *reader) name(n *api.Node) bool {
	name, ok := r.counted()
	if !ok || !path.Name(name) || len(n.Names) > 0 && n.Names[len(n.Names)-1] >= name {
		return false
	}
	n.Names = append(n.Names, name)
	return true
}

// counted reads how many bytes a text has, and these.
func (r *reader) counted() (string, bool) {
	count, ok := r.number()
	if !ok || count > len(r.left) {
		return "", false
	}
	// What is handed out shares no memory with what was handed in.
	text := strings.Clone(r.left[:count])
	r.left = r.left[count:]
	return text, true
}

// number reads a number and the : behind it.
func (r *reader) number() (int, bool) {
	// Further on than behind so many digits no : is looked for: what is left may be long.
	digits, _, ok := strings.Cut(r.left[:min(len(r.left), maxDigits+1)], ":")
	number, e := strconv.Atoi(digits)
	// A sign and noughts ahead are read too, but never written.
	if !ok || e != nil || number < 0 || strconv.Itoa(number) != digits {
		return 0, false
	}
	r.left = r.left[len(digits)+1:]
	return number, true
}
