package moves_test

import (
	"maps"
	"math/rand"
	"slices"
	"strings"
	"testing"

	"touchstone/api"
	"touchstone/ftree"
	"touchstone/path"
	"touchstone/walk"
)

// allCalls are the calls with each set of options that changes what they do.
func allCalls() []call { return []call{{"mv", ""}, {"cp", ""}, {"cp", "r"}, {"ln", "s"}, {"ln", "sf"}} }

// checkMoved checks P13.2: behind a mv that was not refused.
func checkMoved(t *testing.T, r trip, before, then flat) {
	t.Helper()
	at := map[string]string{}
	for k := range before {
		switch {
		case isUnder(r.from, k):
			at[r.to+k[len(r.from):]] = before[k]
		case !isUnder(r.to, k):
			at[k] = before[k]
		}
	}
	if !maps.Equal(at, then) || len(then.part(r.from)) > 0 {
		t.Fatalf("mv from %q to %q changes %q", r.from, r.to, changes(before, then))
	}
}

// checkCopied checks P13.3: behind a cp that was not refused, and behind the same once more.
func checkCopied(t *testing.T, tree *ftree.Tree, c call, r trip, before, then flat, source, goal string) {
	t.Helper()
	if !maps.Equal(then.part(r.from), before.part(r.from)) || !maps.Equal(then.part(r.to), before.part(r.from)) {
		t.Fatalf("%+v from %q to %q changes %q", c, r.from, r.to, changes(before, then))
	}
	again := run(tree, c.words(source, goal)...)
	switch s := before[r.from]; {
	case s[0] == '=' && (again != done || !maps.Equal(flatOf(tree.Root()), then)):
		t.Fatalf("%+v %q %q again: %s, changes %q; over %q", c, source, goal, again.text(), changes(then, flatOf(tree.Root())), changes(flat{}, before))
	case s == "/" && r.isInto && again != refusedBy("cp", source, "there already"):
		t.Fatalf("%+v %q %q again: %s; over %q", c, source, goal, again.text(), changes(flat{}, before))
	}
}

// checkOne checks a call of one source over a tree against the second way, and what follows from the promise. It answers
// what the call answered.
func checkOne(t *testing.T, first *ftree.Tree, before flat, c call, source, goal string) answer {
	t.Helper()
	r := tripOf(first, before, c, source, goal)
	tree, answer, want := first.Clone(), r.answer(c, source, goal), before
	if answer == done {
		want = maps.Clone(before)
		want.sends(c, source, r.from, r.to)
	}
	got := run(tree, c.words(source, goal)...)
	root := tree.Root()
	then := flatOf(root)
	if got != answer || !maps.Equal(then, want) {
		t.Fatalf("%+v %q %q: %s, changes %q; want %s, changes %q; over %q", c, source, goal, got.text(), changes(before, then), answer.text(), changes(before, want), changes(flat{}, before))
	}
	switch {
	case !ftree.Well(root):
		t.Fatalf("behind %+v %q %q the root is not well formed: %v", c, source, goal, root)
	case got == done && c.name == "mv":
		checkMoved(t, r, before, then)
	case got == done && c.name == "cp":
		checkCopied(t, tree, c, r, before, then, source, goal)
	}
	return got
}

// pathsOf are all paths of at most so many of these steps, and these with a / behind.
func pathsOf(most int, steps ...string) []string {
	all, before := list("/"), list("")
	for range most {
		var longer []string
		for _, p := range before {
			for _, step := range steps {
				longer = append(longer, p+step+"/")
			}
		}
		for _, p := range longer {
			all = append(all, strings.TrimSuffix(p, "/"), p)
		}
		before = longer
	}
	return all
}

// smallRoots are all directories with an a and a b of these sorts, or without.
func smallRoots() []api.Node {
	var sorts [][]string
	for _, s := range list("", "=", "/", ">a", ">b", ">b/", ">..", ">c", ">/b/b", "/a=", "/a/", "/a>..", "/b>../b", "/b/c=") {
		sorts = append(sorts, strings.Fields(s))
	}
	var roots []api.Node
	for _, a := range sorts {
		for _, b := range sorts {
			var texts []string
			for _, s := range a {
				texts = append(texts, "a"+s)
			}
			for _, s := range b {
				texts = append(texts, "b"+s)
			}
			roots = append(roots, nodeOf(texts...))
		}
	}
	return roots
}

// P13.1 to P13.4: every call of one source on small trees, with all short paths, against the second way.
func TestAllShortPaths(t *testing.T) {
	operands := append(pathsOf(1, "a", "b", "c", ".."), "a/a", "a/b", "b/a", "b/b/", "a/..", "a/.", "c/a", "", "b/\n", "../a")
	for _, root := range smallRoots() {
		tree, before := treeOf(t, root), flatOf(root)
		for _, source := range operands {
			for _, goal := range operands {
				for _, c := range allCalls() {
					checkOne(t, tree, before, c, source, goal)
				}
			}
		}
	}
}

// somePath is any path of so many steps at most.
func somePath(random *rand.Rand, most int) string {
	var p strings.Builder
	steps := list("a", "a", "a", "b", "b", "b", "c", "c", "d", "x", "..", "..", ".", "", "...")
	for range random.Intn(most + 1) {
		p.WriteString(steps[random.Intn(len(steps))] + "/")
	}
	switch random.Intn(5) {
	case 0:
		return p.String()
	case 1:
		return "/" + strings.TrimSuffix(p.String(), "/")
	}
	return strings.TrimSuffix(p.String(), "/")
}

// oddPath is any operand: a path, mostly.
func oddPath(random *rand.Rand) string {
	switch random.Intn(40) {
	case 0:
		return somePath(random, 3) + list("\n", "\x00", "/\n/a", strings.Repeat("n", api.MaxName), strings.Repeat("n", api.MaxName+1))[random.Intn(5)]
	case 1:
		p := somePath(random, 5)
		return strings.Repeat("/", api.MaxText+random.Intn(3)-1-len(p)) + p
	}
	return somePath(random, 1+random.Intn(3))
}

// someNode is any node of so many directories within one another at most.
func someNode(random *rand.Rand, depth int) api.Node {
	kind := random.Intn(10)
	if text := somePath(random, 4); kind < 3 && text != "" {
		return api.Node{Kind: api.Link, Text: text}
	}
	if kind == 3 {
		return api.Node{Kind: api.Dir}
	}
	if depth == 0 || kind < 6 {
		return api.Node{Kind: api.File, Text: "x"}
	}
	return someDir(random, depth-1)
}

func someDir(random *rand.Rand, depth int) api.Node {
	n := api.Node{Kind: api.Dir}
	for _, name := range list("...", "a", "b", "c", "d") {
		if random.Intn(4) > 0 {
			n.Names, n.Kids = append(n.Names, name), append(n.Kids, someNode(random, depth))
		}
	}
	return n
}

// P13.1 to P13.4: many calls of one source over many trees, against the second way.
func TestSomeOperands(t *testing.T) {
	random := rand.New(rand.NewSource(13))
	type outcome struct {
		c   call
		why string
	}
	outcomes := map[outcome]int{}
	for range 1000 {
		root := someDir(random, 3)
		tree, before := treeOf(t, root), flatOf(root)
		for range 30 {
			source, goal := oddPath(random), oddPath(random)
			for _, c := range allCalls() {
				a := checkOne(t, tree, before, c, source, goal)
				outcomes[outcome{c, strings.TrimSuffix(a.err[strings.LastIndexByte(a.err, ':')+1:], "\n")}]++
			}
		}
	}
	for text, whys := range map[string]string{"mv": "not there,there already,not empty,into itself", "cp": "not there,there already", "cp -r": "not there,there already,into itself", "ln -s": "not there,there already", "ln -sf": "not there"} {
		for _, why := range append(strings.Split(whys, ","), "wrong kind", "too many links", "bad name", "too large") {
			if count := outcomes[outcome{callOf(text), " " + why}]; count < 20 {
				t.Errorf("of %s there are %d alone of %q", text, count, why)
			}
		}
		if count := outcomes[outcome{callOf(text), ""}]; count < 200 {
			t.Errorf("of %s there are %d alone that are done", text, count)
		}
	}
}

// oneByOne runs a call of each source, one behind the other, over a tree.
func oneByOne(tree *ftree.Tree, c call, goal string, sources []string) answer {
	all := done
	for _, source := range sources {
		a := run(tree, c.words(source, goal)...)
		all.code, all.err = max(all.code, a.code), all.err+a.err
	}
	return all
}

// P13.1, P13.4: many calls of several sources. Where a directory is at the goal, they come to what calls of each one come
// to that have the directory's place as their goal; else the goal is refused.
func TestSomeCalls(t *testing.T) {
	random := rand.New(rand.NewSource(131))
	into, refused := 0, 0
	for range 12000 {
		root := someDir(random, 3)
		c := allCalls()[random.Intn(len(allCalls()))]
		goal := oddPath(random)
		sources := list(oddPath(random), oddPath(random))
		for range random.Intn(4) {
			sources = append(sources, oddPath(random))
		}
		tree, alone := treeOf(t, root), treeOf(t, root)
		place, kind, e := walk.Find(tree, goal)
		got := run(tree, c.words(append(slices.Clone(sources), goal)...)...)
		e = firstOf(doubt{path.Check(goal) != api.OK, path.Check(goal)}, doubt{e != api.OK, e}, doubt{kind == api.Absent, api.ErrNone}, doubt{kind != api.Dir, api.ErrKind})
		want := refusedBy(c.name, goal, wordOf(e))
		if e == api.OK {
			want = oneByOne(alone, c, path.Show(place), sources)
			into++
		} else {
			refused++
		}
		if got != want || !ftree.Same(tree.Root(), alone.Root()) {
			t.Fatalf("%+v %q %q: %s; one by one %s; over %q", c, sources, goal, got.text(), want.text(), changes(flat{}, flatOf(root)))
		}
		if now := flatOf(tree.Root()); strings.Count(got.err, c.name+": ") == len(sources) && !maps.Equal(now, flatOf(root)) {
			t.Fatalf("%+v %q %q: all are refused, and it changes %q", c, sources, goal, changes(flatOf(root), now))
		}
	}
	if into < 2000 || refused < 2000 {
		t.Errorf("there are %d calls alone with a directory at the goal, %d refused ones", into, refused)
	}
}

// P13.4: where the goal leads to the same directory all the time, a call of many sources comes to calls of each one.
func TestOneByOne(t *testing.T) {
	for _, goal := range list("d", "e/", "to-d", "to-link/.", "/", "d/..", "to-root", "d/e") {
		for _, sources := range [][]string{{"f", "g"}, {"g", "f", "x"}, {"d/f", "f", "e", "d"}, {"to-f", "to-x", "..", "f"}, {"d/d", "d/d/h", "g", "g"}, {"x", "y"}, {"d", "e"}, {"", "f", "\x00"}} {
			for _, c := range allCalls() {
				tree, alone := treeOf(t, sample()), treeOf(t, sample())
				got, want := run(tree, c.words(append(slices.Clone(sources), goal)...)...), oneByOne(alone, c, goal, sources)
				if got != want || !ftree.Same(tree.Root(), alone.Root()) {
					t.Errorf("%+v %q %q: %s, changes %q; one by one %s, changes %q", c, sources, goal, got.text(), changes(flatOf(sample()), flatOf(tree.Root())), want.text(), changes(flatOf(sample()), flatOf(alone.Root())))
				}
			}
		}
	}
}

// P13.2: mv there and back, where nothing stood, leaves the tree as it was.
func TestThereAndBack(t *testing.T) {
	for _, source := range list("f", "d", "e", "to-f", "to-x", "d/f", "d/d", "d/up", "to-itself") {
		for _, goal := range list("q", "/q", "./q", "../q", "to-root/q") {
			tree := treeOf(t, sample())
			there, back := run(tree, "mv", source, goal), run(tree, "mv", goal, source)
			if there != done || back != done || !ftree.Same(tree.Root(), sample()) {
				t.Errorf("mv %s %s, and back: %s, %s, changes %q", source, goal, there.text(), back.text(), changes(flatOf(sample()), flatOf(tree.Root())))
			}
		}
	}
}

// R1, P13.1: whatever the words are, a call ends, and answers by one of the codes; a code of 0 and no lines go together.
func TestAnyWords(t *testing.T) {
	random := rand.New(rand.NewSource(132))
	for range 300 {
		tree := treeOf(t, someDir(random, 3))
		for range 100 {
			words := list(list("mv", "cp", "ln", "ln", "mb", "")[random.Intn(6)])
			for range random.Intn(6) {
				bytes := make([]byte, random.Intn(5))
				for i := range bytes {
					bytes[i] = "abfrs-s/.\x00\n\xff"[random.Intn(12)]
				}
				words = append(words, string(bytes))
			}
			a := run(tree, words...)
			if is := slices.Contains(names(), words[0]); a.is != is || a.out != "" || (a.code == 0) != (a.err == "") || !is && a != (answer{}) {
				t.Fatalf("%q: %s", words, a.text())
			}
			if lines := strings.HasSuffix(a.err, "\n"); a.code < 0 || a.code > 2 || a.code > 0 && !lines || a.code == 2 && a != usageOf(words[0]) {
				t.Fatalf("%q: %s", words, a.text())
			}
		}
		if !ftree.Well(tree.Root()) {
			t.Fatalf("the root is not well formed: %v", tree.Root())
		}
	}
}
