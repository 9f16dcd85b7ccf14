package spell_test

import (
	"math/rand"
	"slices"
	"strconv"
	"strings"
	"testing"

	"touchstone/api"
	"touchstone/ftree"
	"touchstone/path"
	"touchstone/spell"
)

// longestShort is how long texts of an alphabet with 1, 0 and a Kind's letter may be, if all of them are built: one byte
// more, and there are those of ten bytes.
const longestShort = len("f10:") + 9

// builder is the second way to nodes' texts: all those of a length, of an alphabet's bytes, are built out of shorter ones.
type builder struct {
	alphabet string
	nodes    map[int][]string
}

// words are all texts of so many bytes.
func (b *builder) words(length int) []string {
	all := list("")
	for range length {
		var longer []string
		for _, word := range all {
			for i := range len(b.alphabet) {
				longer = append(longer, word+b.alphabet[i:i+1])
			}
		}
		all = longer
	}
	return all
}

// has tells whether all bytes of a text are the alphabet's.
func (b *builder) has(s string) bool { return strings.Trim(s, b.alphabet) == "" }

// ofLength are all nodes' texts of so many bytes.
func (b *builder) ofLength(length int) []string {
	if all, ok := b.nodes[length]; ok {
		return all
	}
	var all []string
	for count := range length {
		head := strconv.Itoa(count) + ":"
		if !b.has(head) {
			continue
		}
		for _, letter := range list("f", "l") {
			if b.has(letter) && len(letter+head)+count == length && (letter == "f" || count > 0) {
				for _, word := range b.words(count) {
					all = append(all, letter+head+word)
				}
			}
		}
		if b.has("d") {
			for _, row := range b.rows(count, length-len("d"+head), "") {
				all = append(all, "d"+head+row)
			}
		}
	}
	slices.Sort(all)
	b.nodes[length] = all
	return all
}

// rows are all rows of so many bytes, of so many names behind a name, with their nodes.
func (b *builder) rows(names, length int, behind string) []string {
	if names == 0 && length == 0 {
		return list("")
	}
	if names == 0 || length < len("1:ad0:")*names {
		return nil
	}
	var all []string
	for count := 1; count <= length; count++ {
		head := strconv.Itoa(count) + ":"
		for size := 3; b.has(head) && len(head)+count+size <= length; size++ {
			for _, rest := range b.named(names, count, length-len(head)-count-size, size, behind) {
				all = append(all, head+rest)
			}
		}
	}
	return all
}

// named are rows as above that begin by a name of so many bytes, with a node's text of so many, and so many bytes behind.
func (b *builder) named(names, count, left, size int, behind string) (all []string) {
	kids := b.ofLength(size)
	if len(kids) == 0 || names == 1 && left > 0 {
		return nil
	}
	for _, name := range b.words(count) {
		if name <= behind || name == "." || name == ".." || strings.ContainsAny(name, "/\n\x00") {
			continue
		}
		for _, rest := range b.rows(names-1, left, name) {
			for _, kid := range kids {
				all = append(all, name+kid+rest)
			}
		}
	}
	return all
}

// isText tells by the second way whether a text is a node's.
func (b *builder) isText(s string) bool {
	_, is := slices.BinarySearch(b.ofLength(len(s)), s)
	return is
}

// P8.1, P8.2: of all short texts of an alphabet just those are read that are built by the second way.
func TestAllShortTexts(t *testing.T) {
	for _, x := range []struct {
		alphabet string
		most     int
	}{{"dfl012:", 7}, {"fl013:", 7}, {"df01:.", 8}, {"d0:1", 10}, {"dl1:/", 9}} {
		b := &builder{alphabet: x.alphabet, nodes: map[int][]string{}}
		for length := range x.most + 1 {
			for _, s := range b.words(length) {
				checkText(t, s, b.isText(s))
			}
		}
	}
}

// P8.1, P8.2: longer texts that are built by the second way are read, and of those that are a byte off just those that are
// built, too.
func TestLongerTexts(t *testing.T) {
	for _, x := range []struct {
		alphabet string
		most     int
	}{{"d02:1", 17}, {"f10d:", longestShort}, {"ld1:0", longestShort}, {"d0:1.3", 17}, {"0f12d:", longestShort}} {
		b := &builder{alphabet: x.alphabet, nodes: map[int][]string{}}
		for length := 9; length <= x.most; length++ {
			for _, s := range b.ofLength(length) {
				checkText(t, s, true)
				for _, off := range aByteOff(s, x.alphabet) {
					checkText(t, off, b.isText(off))
				}
			}
		}
	}
}

// aByteOff are the texts that a text becomes by one byte more, one less, another one, or by two beside one another changed about.
func aByteOff(s, alphabet string) (all []string) {
	for i := range len(s) {
		all = append(all, s[:i]+s[i+1:])
		if i > 0 {
			all = append(all, s[:i-1]+s[i:i+1]+s[i-1:i]+s[i+1:])
		}
		for k := range len(alphabet) {
			all = append(all, s[:i]+alphabet[k:k+1]+s[i:], s[:i]+alphabet[k:k+1]+s[i+1:])
		}
	}
	return all
}

// checkText checks whether a text is a node's, and that it is shown again.
func checkText(t *testing.T, s string, want bool) {
	t.Helper()
	if !want {
		checkNoText(t, s)
		return
	}
	n, e := spell.Parse(s)
	if back, e2 := spell.Show(n); e != api.OK || back != s || e2 != api.OK || !ftree.Well(n) {
		t.Fatalf("Parse(%q): %d; shown %q, %d", s, e, back, e2)
	}
}

// someNode is any node: of so many directories within one another at most, with names and texts of bytes of all sorts.
func someNode(random *rand.Rand, depth int) api.Node {
	bytes := "ab\\\\ns   ::019.!-/\n\x01\xff\xc3\xa9"
	text := func(most int) string {
		var b []byte
		for range random.Intn(most + 1) {
			b = append(b, bytes[random.Intn(len(bytes))])
		}
		return string(b)
	}
	switch kind := random.Intn(6); {
	case kind == 0:
		return file(text(9))
	case kind == 1:
		return link("l" + text(9))
	case depth == 0:
		return dir()
	}
	kids := map[string]api.Node{}
	for range random.Intn(7) {
		if name := text(3); path.Name(name) {
			kids[name] = someNode(random, depth-1)
		}
	}
	n := dir()
	for name := range kids {
		n.Names = append(n.Names, name)
	}
	slices.Sort(n.Names)
	for _, name := range n.Names {
		n.Kids = append(n.Kids, kids[name])
	}
	return n
}

// read reads a text of a list again: what stands behind backslashes.
func read(t *testing.T, s string) string {
	t.Helper()
	var b []byte
	for i := 0; i < len(s); i++ {
		if s[i] != '\\' {
			b = append(b, s[i])
			continue
		}
		i++
		switch s[i] {
		case 'n':
			b = append(b, '\n')
		case 's':
			b = append(b, ' ')
		case '\\':
			b = append(b, '\\')
		default:
			t.Fatalf("in a list stands %q", s)
		}
	}
	return string(b)
}

// fromLine is the place of a line, and what it says of the node there.
func fromLine(t *testing.T, line string) ([]string, api.Node) {
	t.Helper()
	shown, what, _ := strings.Cut(line, " ")
	kind, text, more := strings.Cut(what, " ")
	if strings.Contains(line, "\n") || !strings.HasPrefix(shown, "/") || more != (kind != "d") || strings.Contains(text, `\s`) && !strings.Contains(text, `\\s`) {
		t.Fatalf("line %q", line)
	}
	var at []string
	if shown != "/" {
		for _, name := range strings.Split(shown[1:], "/") {
			at = append(at, read(t, name))
		}
	}
	kinds := map[string]uint8{"f": api.File, "l": api.Link, "d": api.Dir}
	return at, api.Node{Kind: kinds[kind], Text: read(t, text)}
}

// fromList is the node of a list: line by line it is put to its place. The root's line alone may be of no directory.
func fromList(t *testing.T, lines []string) api.Node {
	t.Helper()
	_, root := fromLine(t, lines[0])
	if root.Kind != api.Dir {
		return root
	}
	tree, _ := ftree.New(root)
	for _, line := range lines[1:] {
		at, n := fromLine(t, line)
		tree.Put(at, n)
	}
	return tree.Root()
}

// checkLines checks a node's list: as many lines as nodes, by rising places, which tell the node.
func checkLines(t *testing.T, n api.Node) {
	t.Helper()
	lines, e := spell.List(n)
	if e != api.OK || len(lines) != ftree.Nodes(n) {
		t.Fatalf("List of %d nodes: %q, %d", ftree.Nodes(n), lines, e)
	}
	for i := 1; i < len(lines); i++ {
		before, _ := fromLine(t, lines[i-1])
		at, _ := fromLine(t, lines[i])
		if !path.Less(before, at) {
			t.Fatalf("line %q behind %q", lines[i], lines[i-1])
		}
	}
	if back := fromList(t, lines); !ftree.Same(back, n) {
		t.Fatalf("%q is the list of another node, too", lines)
	}
}

// P8.2, P8.3: many nodes, shown and read again, and out of their lists.
func TestSomeNodes(t *testing.T) {
	random := rand.New(rand.NewSource(8))
	texts, lists := map[string]string{}, map[string]string{}
	for range 30000 {
		n := someNode(random, random.Intn(5))
		text, e := spell.Show(n)
		if back, e2 := spell.Parse(text); e != api.OK || e2 != api.OK || !ftree.Same(back, n) {
			t.Fatalf("Show = %q, %d; Parse %d", text, e, e2)
		}
		checkLines(t, n)
		lines, _ := spell.List(n)
		all := strings.Join(lines, "\n")
		if texts[text] != "" && texts[text] != all || lists[all] != "" && lists[all] != text {
			t.Fatalf("two nodes have the text %q, or the list %q", text, lines)
		}
		texts[text], lists[all] = all, text
	}
}

// P8.3: the lists of all short texts of nodes are unlike.
func TestListsAreUnlike(t *testing.T) {
	for _, x := range []struct {
		alphabet string
		most     int
	}{{"df012:s\\", 12}, {"fl0123: \n\\", 7}, {"d012: -", 15}, {"df01:\\ns ", longestShort}} {
		b := &builder{alphabet: x.alphabet, nodes: map[int][]string{}}
		lists := map[string]string{}
		for length := range x.most + 1 {
			for _, s := range b.ofLength(length) {
				n, _ := spell.Parse(s)
				checkLines(t, n)
				lines, _ := spell.List(n)
				all := strings.Join(lines, "\n")
				if lists[all] != "" {
					t.Fatalf("%q and %q have the list %q", lists[all], s, lines)
				}
				lists[all] = s
			}
		}
	}
}

// P8.1, P8.3: of what stands below a place the lines stand behind its own, ahead of those of places beside it, whose names
// begin by its name, or hold bytes less than /.
func TestLinesRise(t *testing.T) {
	names := list("a", "a ", "a!", "a-", "a-b", "a.", "a0", "aa", "a\\", "a\xff", "b")
	slices.Sort(names)
	for depth := range 4 {
		n := file("x")
		for range depth {
			below := n
			n = dir()
			for _, name := range names {
				n.Names, n.Kids = append(n.Names, name), append(n.Kids, below)
			}
		}
		checkLines(t, n)
		lines, _ := spell.List(n)
		if depth > 1 && slices.IsSorted(lines) {
			t.Errorf("depth %d: the lines rise as texts do", depth)
		}
	}
}
