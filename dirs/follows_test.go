package dirs_test

import (
	"maps"
	"math/rand"
	"slices"
	"strings"
	"testing"

	"touchstone/api"
	"touchstone/ftree"
	"touchstone/path"
	"touchstone/walk"
)

// allCalls are the calls with each set of options that they know.
func allCalls() []call {
	return []call{{"mkdir", ""}, {"mkdir", "p"}, {"rmdir", ""}, {"touch", ""}, {"rm", ""}, {"rm", "f"}, {"rm", "r"}, {"rm", "fr"}}
}

// words are a call's words with these operands.
func (c call) words(operands ...string) []string {
	words := list(c.name)
	if c.set != "" {
		words = append(words, "-"+c.set)
	}
	return append(append(words, "--"), operands...)
}

// isWithin tells whether all that stands in one tree stands in another one, too.
func isWithin(small, large flat) bool {
	for at, s := range small {
		if large[at] != s {
			return false
		}
	}
	return true
}

// checkFollows checks P12.3 and P12.4 of a call of one operand.
func checkFollows(t *testing.T, c call, operand string, got answer, before, then flat, first, tree *ftree.Tree) {
	t.Helper()
	makes := c.name == "mkdir" || c.name == "touch"
	if makes && !isWithin(before, then) || !makes && !isWithin(then, before) {
		t.Fatalf("%+v %q changes %q", c, operand, changes(before, then))
	}
	if got.code != 0 {
		if c.set != "p" && !maps.Equal(before, then) {
			t.Fatalf("%+v %q is refused, and changes %q", c, operand, changes(before, then))
		}
		return
	}
	if makes {
		_, kind, e := walk.Find(tree, operand)
		if e != api.OK || kind == api.Absent || c.set == "p" && kind != api.Dir {
			t.Fatalf("behind %+v %q Find tells Kind %d, %d; over %q", c, operand, kind, e, changes(flat{}, before))
		}
		return
	}
	place, _, e := walk.Spot(first, operand)
	again, kind, e2 := walk.Spot(tree, operand)
	if e == api.OK && (tree.Kind(place) != api.Absent || e2 == api.OK && slices.Equal(place, again) && kind != api.Absent) {
		t.Fatalf("behind %+v %q Kind %d is at %q; over %q", c, operand, tree.Kind(place), place, changes(flat{}, before))
	}
}

// checkSecond checks a call over a tree against the second way, and what follows from the promises. It answers what the
// call answered.
func checkSecond(t *testing.T, first *ftree.Tree, before flat, c call, operands ...string) answer {
	t.Helper()
	tree, want := first.Clone(), maps.Clone(before)
	got, answer := run(tree, c.words(operands...)...), want.run(c, operands)
	root := tree.Root()
	then := flatOf(root)
	if got != answer || !maps.Equal(then, want) {
		t.Fatalf("%+v %q: %s, changes %q; want %s, changes %q; over %q", c, operands, got.text(), changes(before, then), answer.text(), changes(before, want), changes(flat{}, before))
	}
	if !ftree.Well(root) {
		t.Fatalf("behind %+v %q the root is not well formed: %v", c, operands, root)
	}
	if len(operands) == 1 {
		checkFollows(t, c, operands[0], got, before, then, first, tree)
	}
	return got
}

// pathsOf are all paths of at most so many of these steps, and these with a / ahead and behind.
func pathsOf(most int, steps ...string) []string {
	all := list("/")
	before := list("")
	for range most {
		var longer []string
		for _, p := range before {
			for _, step := range steps {
				longer = append(longer, p+"/"+step)
			}
		}
		for _, p := range longer {
			all = append(all, p[1:], p+"/")
		}
		before = longer
	}
	return all
}

// smallRoots are all directories with an a and a b of these sorts, or without.
func smallRoots() []api.Node {
	low := list("=", "/", ">a", ">b/", ">..", ">/", ">../b", ">/c", ">c/", ">a/c")
	sorts := [][]string{nil, {"/a/c="}}
	for _, s := range low {
		sorts = append(sorts, list(s))
	}
	for _, s := range low[:7] {
		sorts = append(sorts, list("/a"+s))
	}
	var roots []api.Node
	for _, a := range sorts {
		for _, b := range sorts {
			var texts []string
			for _, s := range a {
				texts = append(texts, "a"+s)
			}
			for _, s := range b {
				texts = append(texts, "b"+s)
			}
			roots = append(roots, nodeOf(texts...))
		}
	}
	return roots
}

// P12.1, P12.3, P12.4: every call on small trees, with all short paths, against the second way.
func TestAllShortPaths(t *testing.T) {
	operands := append(pathsOf(2, "a", "b", "c", "..", "."), pathsOf(3, "a", "c", "..")...)
	operands = append(operands, "", "\n", "a/\n", "c/\x00", "a/b/c/d", "c/../c/../b/c")
	for _, root := range smallRoots() {
		tree, before := treeOf(t, root), flatOf(root)
		for _, c := range allCalls() {
			for _, operand := range operands {
				checkSecond(t, tree, before, c, operand)
			}
			checkSecond(t, tree, before, c)
		}
	}
}

// somePath is any path of so many steps at most.
func somePath(random *rand.Rand, most int) string {
	var p strings.Builder
	steps := list("a", "a", "b", "b", "c", "c", "d", "x", "y", "..", "..", ".", "", "...")
	for range random.Intn(most + 1) {
		p.WriteString(steps[random.Intn(len(steps))] + "/")
	}
	switch random.Intn(5) {
	case 0:
		return p.String()
	case 1:
		return "/" + strings.TrimSuffix(p.String(), "/")
	}
	return strings.TrimSuffix(p.String(), "/")
}

// oddPath is any operand: a path, mostly.
func oddPath(random *rand.Rand) string {
	switch random.Intn(40) {
	case 0:
		return somePath(random, 3) + list("\n", "\x00", "/\n/a", strings.Repeat("n", api.MaxName), strings.Repeat("n", api.MaxName+1))[random.Intn(5)]
	case 1:
		p := somePath(random, 5)
		return strings.Repeat("/", api.MaxText+random.Intn(3)-1-len(p)) + p
	case 2:
		return strings.Repeat("x/../", random.Intn(4)) + somePath(random, 4)
	}
	return somePath(random, 7)
}

// someNode is any node of so many directories within one another at most.
func someNode(random *rand.Rand, depth int) api.Node {
	kind := random.Intn(10)
	if text := somePath(random, 4); kind < 3 && text != "" {
		return api.Node{Kind: api.Link, Text: text}
	}
	if kind == 3 {
		return api.Node{Kind: api.Dir}
	}
	if depth == 0 || kind == 4 {
		return api.Node{Kind: api.File, Text: "x"}
	}
	return someDir(random, depth-1)
}

func someDir(random *rand.Rand, depth int) api.Node {
	n := api.Node{Kind: api.Dir}
	for _, name := range list("...", "a", "b", "c", "d") {
		if random.Intn(5) > 1 {
			n.Names, n.Kids = append(n.Names, name), append(n.Kids, someNode(random, depth))
		}
	}
	return n
}

// P12.1, P12.3, P12.4: many calls of one operand over many trees, against the second way.
func TestSomeOperands(t *testing.T) {
	random := rand.New(rand.NewSource(12))
	type outcome struct {
		c   call
		why string
	}
	outcomes := map[outcome]int{}
	for range 1200 {
		root := someDir(random, 3)
		tree, before := treeOf(t, root), flatOf(root)
		for range 10 {
			operand := oddPath(random)
			for _, c := range allCalls() {
				a := checkSecond(t, tree, before, c, operand)
				outcomes[outcome{c, strings.TrimSuffix(a.err[strings.LastIndexByte(a.err, ':')+1:], "\n")}]++
			}
		}
	}
	for _, c := range allCalls() {
		for _, why := range list("", " wrong kind", " too many links", " bad name", " too large") {
			if outcomes[outcome{c, why}] < 20 {
				t.Errorf("of %+v there are %d alone of %q", c, outcomes[outcome{c, why}], why)
			}
		}
	}
}

// P12.1: many calls of several operands, one behind the other, against the second way; and a call of several operands
// comes to what calls of each come to.
func TestSomeCalls(t *testing.T) {
	random := rand.New(rand.NewSource(121))
	for range 1200 {
		root := someDir(random, 3)
		tree := treeOf(t, root)
		for range 8 {
			c := allCalls()[random.Intn(len(allCalls()))]
			var operands []string
			for range random.Intn(6) {
				operands = append(operands, oddPath(random))
			}
			got := checkSecond(t, tree, flatOf(tree.Root()), c, operands...)
			alone, one := tree.Clone(), done
			for _, operand := range operands {
				a := run(alone, c.words(operand)...)
				one.code, one.err = max(one.code, a.code), one.err+a.err
			}
			run(tree, c.words(operands...)...)
			if len(operands) > 0 && (got != one || !ftree.Same(tree.Root(), alone.Root())) {
				t.Fatalf("%+v %q: %s; one by one %s", c, operands, got.text(), one.text())
			}
		}
	}
}

// P12.3: what rm and rmdir do not take away stays as it is, and what mkdir and touch make has nothing in it.
func TestNothingLost(t *testing.T) {
	for at, s := range flatOf(sample()) {
		operand := "/" + strings.TrimSuffix(at, "/")
		for _, c := range allCalls() {
			tree := treeOf(t, sample())
			run(tree, c.words(operand)...)
			for other, was := range flatOf(sample()) {
				is, stays := flatOf(tree.Root())[other], !strings.HasPrefix(other, at) || c.name == "mkdir" || c.name == "touch"
				if stays && is != was {
					t.Errorf("behind %+v %q: %q is %v, was %v", c, operand, other, is, was)
				}
			}
			if s.kind == api.Absent {
				t.Errorf("nothing is at %q", at)
			}
		}
	}
	for _, x := range []struct {
		words []string
		at    string
		want  api.Node
	}{
		{list("mkdir", "x"), "x", api.Node{Kind: api.Dir}}, {list("mkdir", "-p", "d/x/y"), "d/x/y", api.Node{Kind: api.Dir}}, {list("touch", "d/x"), "d/x", api.Node{Kind: api.File}},
		{list("touch", "f"), "f", api.Node{Kind: api.File, Text: "x"}}, {list("mkdir", "-p", "d/e"), "d/e", api.Node{Kind: api.Dir}}, {list("touch", "to-d"), "to-d", api.Node{Kind: api.Link, Text: "d"}},
	} {
		tree := treeOf(t, sample())
		a := run(tree, x.words...)
		if n, ok := ftree.At(tree.Root(), path.Clean(x.at)); a != done || !ok || !ftree.Same(n, x.want) {
			t.Errorf("behind %q: %s, %v at %q", x.words, a.text(), n, x.at)
		}
	}
}

// P12.4: what was made, and is taken away, leaves the tree as it was, also where the operand ends by / .
func TestMadeAndTakenAway(t *testing.T) {
	for _, operand := range list("x", "x/", "/x/.", "d/x", "to-d/x", "d/../e/x", "...x", "to-x/", "to-dx/.") {
		for _, pair := range [][2]string{{"mkdir", "rmdir"}, {"mkdir", "rm -r"}, {"mkdir -p", "rmdir"}, {"mkdir -p", "rm -rf"}, {"touch", "rm"}, {"touch", "rm -f"}} {
			tree := treeOf(t, sample())
			if a := run(tree, append(strings.Fields(pair[0]), operand)...); a != done {
				if pair[0] != "touch" || !path.Dir(operand) {
					t.Errorf("%s %q: %s", pair[0], operand, a.text())
				}
				continue
			}
			if _, kind, e := walk.Find(tree, operand); e != api.OK || kind == api.Absent {
				t.Errorf("behind %s %q: Kind %d, %d", pair[0], operand, kind, e)
			}
			if a := run(tree, append(strings.Fields(pair[1]), operand)...); a != done || !ftree.Same(tree.Root(), sample()) {
				t.Errorf("%s, %s %q: %s, changes %q", pair[0], pair[1], operand, a.text(), changes(flatOf(sample()), flatOf(tree.Root())))
			}
			if _, kind, e := walk.Spot(tree, operand); e != api.OK || kind != api.Absent {
				t.Errorf("behind %s %q: Kind %d, %d", pair[1], operand, kind, e)
			}
		}
	}
}

// R1, P12.1: whatever the words are, a call ends, and answers by one of the codes; a code of 0 and no lines go together.
func TestAnyWords(t *testing.T) {
	random := rand.New(rand.NewSource(122))
	for range 300 {
		tree := treeOf(t, someDir(random, 3))
		for range 100 {
			var words []string
			for range random.Intn(6) {
				bytes := make([]byte, random.Intn(5))
				for i := range bytes {
					bytes[i] = "abfr-pr/.\x00\n\xff"[random.Intn(12)]
				}
				words = append(words, string(bytes))
			}
			if random.Intn(4) > 0 {
				words = append(list(allCalls()[random.Intn(len(allCalls()))].name), words...)
			}
			a := run(tree, words...)
			is := len(words) > 0 && slices.Contains(names(), words[0])
			if a.is != is || a.out != "" || (a.code == 0) != (a.err == "") || !is && a != (answer{}) {
				t.Fatalf("%q: %s", words, a.text())
			}
			if lines := strings.HasSuffix(a.err, "\n"); a.code < 0 || a.code > 2 || a.code > 0 && !lines || a.code == 2 && a != usageOf(words[0]) {
				t.Fatalf("%q: %s", words, a.text())
			}
		}
		if !ftree.Well(tree.Root()) {
			t.Fatalf("the root is not well formed: %v", tree.Root())
		}
	}
}
