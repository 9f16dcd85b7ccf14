package probe_test

import (
	"math/rand"
	"slices"
	"strings"
	"testing"

	"touchstone/api"
	"touchstone/ftree"
	"touchstone/path"
	"touchstone/probe"
	"touchstone/walk"
)

// does tells whether a test holds that is no usage.
func does(t *testing.T, tree *ftree.Tree, words ...string) bool {
	t.Helper()
	does, is := probe.Holds(looked{tree, t}, words)
	if !is {
		t.Fatalf("%q is usage", words)
	}
	return does
}

// somePath is any path of so many steps at most.
func somePath(random *rand.Rand, most int) string {
	steps := make([]string, random.Intn(most+1))
	for i := range steps {
		steps[i] = list("a", "a", "b", "b", "c", "..", ".", "", "!", "=", "x")[random.Intn(11)]
	}
	switch p := strings.Join(steps, "/"); random.Intn(30) {
	case 0:
		return p + list("\n", "\x00", "/\n/a", strings.Repeat("n", api.MaxName+1))[random.Intn(4)]
	case 1:
		return strings.Repeat("/", api.MaxText+random.Intn(3)-1-len(p)) + p
	case 2, 3, 4:
		return "/" + p
	case 5, 6, 7:
		return p + "/"
	default:
		return p
	}
}

// someDir is any directory with so many below one another at most.
func someDir(random *rand.Rand, depth int) api.Node {
	n := api.Node{Kind: api.Dir}
	for _, name := range list("!", "=", "a", "b", "c") {
		kid := api.Node{Kind: api.File, Text: name}
		switch random.Intn(8) {
		case 0:
			continue
		case 1, 2, 3:
			if text := somePath(random, 4); text != "" && !strings.Contains(text, "\x00") && len(text) <= api.MaxText {
				kid = api.Node{Kind: api.Link, Text: text}
			}
		case 4, 5:
			kid = api.Node{Kind: api.Dir}
			if depth > 0 {
				kid = someDir(random, depth-1)
			}
		}
		n.Names, n.Kids = append(n.Names, name), append(n.Kids, kid)
	}
	return n
}

// lettersOf are what holds of a path, by the walk.
func lettersOf(tree *ftree.Tree, p string) string {
	if path.Check(p) != api.OK {
		return ""
	}
	_, found, e := walk.Find(tree, p)
	letters := [4]string{api.File: "ef", api.Dir: "ed"}[found]
	if e != api.OK {
		letters = ""
	}
	if _, kind, e := walk.Spot(tree, p); e == api.OK && kind == api.Link {
		letters += "Lh"
	}
	return letters
}

// P14.1, P14.3, P14.4, P14.5: many paths through many trees, against the walk; -e holds just if -f or -d does.
func TestSomePaths(t *testing.T) {
	random := rand.New(rand.NewSource(145))
	counts := map[string]int{}
	for range 1000 {
		tree, e := ftree.New(someDir(random, 3))
		if e != api.OK {
			t.Fatal(e)
		}
		before := tree.Root()
		for range 40 {
			p := somePath(random, 4)
			want := lettersOf(tree, p)
			counts[want]++
			for _, letter := range "efdLh" {
				word := "-" + string(letter)
				if got := does(t, tree, word, p); got != strings.ContainsRune(want, letter) || got == does(t, tree, "!", word, p) {
					t.Fatalf("%s %q: %v; want %q", word, p, got, want)
				}
			}
			if does(t, tree, "-e", p) != (does(t, tree, "-f", p) || does(t, tree, "-d", p)) || does(t, tree, "-f", p) && does(t, tree, "-d", p) || does(t, tree, "-L", p) != does(t, tree, "-h", p) {
				t.Fatalf("of %q there hold %q", p, want)
			}
		}
		if !ftree.Same(before, tree.Root()) {
			t.Fatalf("the tree was %v, and is %v", before, tree.Root())
		}
	}
	for _, letters := range list("", "ef", "ed", "Lh", "efLh", "edLh") {
		if counts[letters] < 100 {
			t.Errorf("there are %d paths alone of which %q hold", counts[letters], letters)
		}
	}
}

// P14.4: with ! ahead, tests of one to three words hold just if they do not; with one word less than that, three words
// may hold otherwise where = or != is the second one, and else not.
func TestNotOfAll(t *testing.T) {
	tree := sample(t)
	turned, otherwise := 0, 0
	var check func(l []string)
	check = func(l []string) {
		before, is := probe.Holds(tree, l)
		behind, isToo := probe.Holds(tree, append(list("!"), l...))
		middle := len(l) == 2 && (l[0] == "=" || l[0] == "!=")
		switch {
		case middle:
			if is || !isToo || behind != ((l[1] == "!") == (l[0] == "=")) {
				t.Fatalf("%q: %v, %v; with ! ahead %v, %v", l, before, is, behind, isToo)
			}
			otherwise++
		case len(l) > 0 && (is != isToo || is && before == behind):
			t.Fatalf("%q: %v, %v; with ! ahead %v, %v", l, before, is, behind, isToo)
		case is:
			turned++
		}
		if len(l) == 3 {
			return
		}
		for _, word := range words() {
			check(append(slices.Clone(l), word))
		}
	}
	check(nil)
	if turned < 500 || otherwise != 2*len(words()) {
		t.Errorf("%d tests are turned about, %d are otherwise", turned, otherwise)
	}
}

// P14.4: four words with ! ahead are usage, whether those without it hold or not.
func TestNotOfFour(t *testing.T) {
	tree := sample(t)
	for text, outcome := range map[string]int{"! a = a": fails, "! a = b": holds, "! ! -e f": holds, "! ! ! a": fails, "! ! = !": fails, "a b c d": usage, "! a b c": usage} {
		checkTest(t, tree, outcome, wordsOf(text)...)
		checkTest(t, tree, usage, append(list("!"), wordsOf(text)...)...)
	}
}
