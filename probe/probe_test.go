package probe_test

import (
	"fmt"
	"slices"
	"strings"
	"testing"

	"touchstone/api"
	"touchstone/ftree"
	"touchstone/path"
	"touchstone/probe"
)

// treeOf is a tree in which that stands, in its row: behind a directory's path there is / , behind a file's = and its
// text, behind a link's > and its text.
func treeOf(t *testing.T, texts ...string) *ftree.Tree {
	t.Helper()
	tree, e := ftree.New(api.Node{Kind: api.Dir})
	for _, text := range texts {
		at, n := text, api.Node{Kind: api.Dir}
		if before, behind, ok := strings.Cut(text, ">"); ok {
			at, n = before, api.Node{Kind: api.Link, Text: behind}
		} else if i := strings.LastIndexByte(text, '='); i >= 0 {
			at, n = text[:i], api.Node{Kind: api.File, Text: text[i+1:]}
		}
		place := path.Clean(at)
		if tree.Put(place, n); tree.Kind(place) != n.Kind {
			t.Fatalf("%q does not stand", text)
		}
	}
	if e != api.OK || !ftree.May(tree.Root()) {
		t.Fatalf("%q is no tree: %d", texts, e)
	}
	return tree
}

// sample has a node of each Kind, links that lead to all sorts of places, and names that look like words of test.
func sample(t *testing.T) *ftree.Tree {
	t.Helper()
	return treeOf(t, "f=x", "none=", "d/", "d/f=y", "d/e/", "d/l>f", "d/up>..", "e/",
		"to-f>f", "to-d>d", "to-e>e", "to-df>/d/f", "to-link>to-d", "to-l>d/l", "to-x>x", "to-dx>d/x", "to-xy>x/y", "to-fx>f/x",
		"to-root>/", "to-itself>to-itself", "to-d-slash>d/", "to-f-slash>f/", "to-x-slash>x/",
		"c1>f", "c2>c1", "c3>c2", "c4>c3", "c5>c4", "c6>c5", "c7>c6", "c8>c7", "c9>c8",
		"!=", "==", "-e=", "-f/", "]/", strings.Repeat("n", api.MaxName)+"=")
}

func list(words ...string) []string { return words }

// wordsOf are the words of a text: of two blanks an empty one stands between.
func wordsOf(text string) []string { return strings.Split(text, " ") }

// answer is what Run answers.
type answer struct {
	code     int
	out, err string
	is       bool
}

// text is an answer by a text.
func (a answer) text() string {
	return fmt.Sprintf("%d, %.300q, %.300q, %v", a.code, a.out, a.err, a.is)
}

func run(f ftree.FS, words ...string) answer {
	code, out, err, is := probe.Run(f, words)
	return answer{code, out, err, is}
}

// usageOf is the answer where a utility's words are wrong.
func usageOf(name string) answer { return answer{2, "", name + ": usage\n", true} }

// ends is the answer of a call that writes nothing and complains of nothing.
func ends(code int) answer { return answer{code, "", "", true} }

// looked is a file system that is looked at alone: the test fails where one is changed.
type looked struct {
	ftree.FS
	t *testing.T
}

func (l looked) Put(place []string, n api.Node) { l.t.Errorf("Put at %q", place) }
func (l looked) Del(place []string)             { l.t.Errorf("Del of %q", place) }
func (l looked) Move(from, to []string)         { l.t.Errorf("Move from %q to %q", from, to) }
func (l looked) Copy(from, to []string)         { l.t.Errorf("Copy from %q to %q", from, to) }

// checkRun checks what a call answers over a tree, twice, and that the tree stays as it is.
func checkRun(t *testing.T, tree *ftree.Tree, want answer, words ...string) {
	t.Helper()
	before := tree.Clone()
	for range 2 {
		if got := run(looked{tree, t}, words...); got != want {
			t.Fatalf("%.300q: %s; want %s", words, got.text(), want.text())
		}
	}
	if !ftree.Same(before.Root(), tree.Root()) {
		t.Fatalf("%.300q changes the tree: %v", words, tree.Root())
	}
}

// The chapter's examples.
func TestExamples(t *testing.T) {
	tree := treeOf(t, "d/")
	for text, want := range map[string]answer{
		"test": ends(1), "test a": ends(0), "test -d d": ends(0), "[ -f d ]": ends(1), "[ -f d": usageOf("["), "test ! -e x": ends(0),
		"test ! = !": ends(0), "test a b": usageOf("test"), "echo a  b": {0, "a  b\n", "", true},
	} {
		checkRun(t, tree, want, wordsOf(text)...)
	}
	checkRun(t, tree, answer{0, "a b\n", "", true}, strings.Fields("echo a  b")...)
}

// P14.1: words that are none.
func TestNoWords(t *testing.T) {
	for _, f := range []ftree.FS{nil, sample(t)} {
		for _, words := range [][]string{nil, {}, list("test", "x")[:0], list("echo")[1:]} {
			if got := run(f, words...); got != (answer{}) {
				t.Errorf("%q: %s", words, got.text())
			}
		}
	}
}

func names() []string { return list("echo", "true", ":", "false", "test", "[") }

// near are texts that are one byte less than another one, or more, or have another byte.
func near(text string) (all []string) {
	for i := range len(text) + 1 {
		behind := text[min(i+1, len(text)):]
		all = append(all, text[:i]+behind)
		for b := range 256 {
			front := text[:i] + string([]byte{byte(b)})
			all = append(all, front+behind, front+text[i:])
		}
	}
	return all
}

// P14.1: a first word that is none of the names, whatever stands behind it.
func TestNoName(t *testing.T) {
	tree := sample(t)
	words := list("", " ", "mkdir", "rmdir", "touch", "rm", "mv", "cp", "ln", "exit", "set", "ls", "nix", "[[", "]", "[]", "[ ]", "::", "!", "-e", "=", "TEST", "Echo", "test -e", "echo a", "/test", "./true", "falsetrue", "test\x00", "echo\n", strings.Repeat("test", 1000))
	for _, name := range names() {
		words = append(words, near(name)...)
	}
	for _, word := range words {
		if slices.Contains(names(), word) {
			continue
		}
		for _, behind := range [][]string{nil, {""}, {"a"}, {"]"}, {"-e", "f"}, {"-e", "f", "]"}, {"a", "=", "a"}, {"test", "a"}, {"echo", "a"}, {"a", "b", "c", "d", "e"}} {
			checkRun(t, tree, answer{}, append(list(word), behind...)...)
		}
	}
}

// P14.1, P14.2: no file system, whatever the words; one that is a nil object is none.
func TestNoFileSystem(t *testing.T) {
	var none *ftree.Tree
	for _, f := range []ftree.FS{nil, none, none.Clone()} {
		for _, text := range list("", "a", "]", "! ", "! a", "-n a", "-z ", "-e f", "-e /", "-d .", "-L l", "a = a", "a = a ]", "a != b", "! a != a", "-d / ]", "a b", "a b c d e f") {
			for _, name := range append(names(), "ls", "") {
				if got := run(f, append(list(name), wordsOf(text)...)...); got != (answer{}) {
					t.Errorf("%s %q: %s", name, text, got.text())
				}
			}
			if holds, is := probe.Holds(f, wordsOf(text)); holds || is {
				t.Errorf("Holds of %q: %v, %v", text, holds, is)
			}
		}
		for _, name := range names() {
			if got := run(f, name); got != (answer{}) {
				t.Errorf("%s: %s", name, got.text())
			}
		}
		for _, words := range [][]string{nil, {}} {
			if holds, is := probe.Holds(f, words); holds || is {
				t.Errorf("Holds of %q: %v, %v", words, holds, is)
			}
		}
	}
}

// P14.1: echo's words, with a blank between, and a line's end.
func TestEcho(t *testing.T) {
	tree := sample(t)
	for _, x := range []struct {
		words []string
		out   string
	}{
		{nil, "\n"}, {list("a"), "a\n"}, {list("a", "b"), "a b\n"}, {list("a", "b", "c", "d", "e", "f"), "a b c d e f\n"},
		{list(""), "\n"}, {list("", ""), " \n"}, {list("", "", ""), "  \n"}, {list("", "a"), " a\n"}, {list("a", ""), "a \n"}, {list("a", "", "b"), "a  b\n"},
		{list(" "), " \n"}, {list(" a ", " b"), " a   b\n"}, {list("a b", "c"), "a b c\n"}, {list("\t", "\t"), "\t \t\n"},
		{list("\x00"), "\x00\n"}, {list("a\x00b", "\x00"), "a\x00b \x00\n"}, {list("\n"), "\n\n"}, {list("a\n", "\nb"), "a\n \nb\n"}, {list("\xff", "\xc3"), "\xff \xc3\n"},
		{list("-n"), "-n\n"}, {list("-n", "a"), "-n a\n"}, {list("a", "-n"), "a -n\n"}, {list("-e", "a\\nb\\c"), "-e a\\nb\\c\n"}, {list("-E"), "-E\n"}, {list("--", "a"), "-- a\n"}, {list("-"), "-\n"}, {list("--help"), "--help\n"},
		{list("]"), "]\n"}, {list("!", "a"), "! a\n"}, {list("f", "d", "x"), "f d x\n"}, {list("*"), "*\n"}, {list("$x", "\"", "'"), "$x \" '\n"}, {list("echo", "echo"), "echo echo\n"},
	} {
		checkRun(t, tree, answer{0, x.out, "", true}, append(list("echo"), x.words...)...)
	}
}

// P14.1: echo has no limit of its own.
func TestEchoOfMuch(t *testing.T) {
	words := list("echo")
	for i := range 3 * api.MaxArgs {
		words = append(words, strings.Repeat("w", i))
		checkRun(t, treeOf(t), answer{0, strings.Join(words[1:], " ") + "\n", "", true}, words...)
	}
	long := strings.Repeat("l", 2*api.MaxOut)
	checkRun(t, treeOf(t), answer{0, long + " " + long + "\n", "", true}, "echo", long, long)
}

// P14.1: true, : and false, whatever their words.
func TestTrueAndFalse(t *testing.T) {
	tree := sample(t)
	behind := [][]string{nil, {""}, {"", ""}, {"a"}, {"a", "b"}, {"-x"}, {"--help"}, {"--"}, {"]"}, {"!"}, {"!", "true"}, {"0"}, {"1"}, {"false"}, {"true"}, {"-e", "x"}, {"\x00"}, {"a\nb"}, strings.Split(strings.Repeat("w ", 300), " ")}
	for name, code := range map[string]int{"true": 0, ":": 0, "false": 1} {
		for _, words := range behind {
			checkRun(t, tree, ends(code), append(list(name), words...)...)
		}
	}
}

// P14.1: the last word of [ is ], and taken away: it alone, and once alone.
func TestBracket(t *testing.T) {
	tree := sample(t)
	for text, want := range map[string]answer{
		"[": usageOf("["), "[ ]": ends(1), "[ ] ]": ends(0), "[ ] ] ]": usageOf("["), "[ ] ] ] ]": usageOf("["), "[ ] = ] ]": ends(0), "[ ] != ] ]": ends(1),
		"[ a": usageOf("["), "[ a ]": ends(0), "[  ]": ends(1), "[ a ] ]": usageOf("["), "[ ] a": usageOf("["), "[ ] a ]": usageOf("["), "[ a ] b": usageOf("["), "[ a ] b ]": usageOf("["), "[ ] ] a": usageOf("["),
		"[ ! ]": ends(0), "[ ! ] ]": ends(1), "[ ! ! ] ]": ends(0), "[ = ]": ends(0), "[ -n ]": ends(0), "[ -z ]": ends(0), "[ -e ]": ends(0), "[ -n ] ]": ends(0), "[ -z ] ]": ends(1), "[ -d ] ]": ends(0), "[ -f ] ]": ends(1), "[ ! -d ] ]": ends(1),
		"[ -d d": usageOf("["), "[ -d d ]": ends(0), "[ -d f ]": ends(1), "[ a = a": usageOf("["), "[ a = a ]": ends(0), "[ a = ]": usageOf("["), "[ a = ] ]": ends(1), "[ a != ] ]": ends(0), "[ ! a = ] ]": ends(0),
		"[ a ]]": usageOf("["), "[ a ] ": usageOf("["), "[ a [": usageOf("["), "[ [ ]": ends(0), "[ test ]": ends(0), "[ -d d ]x": usageOf("["), "[ -d d x]": usageOf("["), "[ ! ! ! a ]": ends(1), "[ ! ! a = a ]": usageOf("["),
		"test ]": ends(0), "test ] ]": usageOf("test"), "test a ]": usageOf("test"), "test -n ]": ends(0), "test -d ]": ends(0), "test -d d ]": usageOf("test"), "test ] = ]": ends(0), "test a = a ]": usageOf("test"), "test ! ]": ends(1), "test [ = ]": ends(1), "test [ a ]": usageOf("test"),
	} {
		checkRun(t, tree, want, wordsOf(text)...)
	}
	for _, last := range near("]") {
		if last != "]" {
			checkRun(t, tree, usageOf("["), "[", last)
			checkRun(t, tree, usageOf("["), "[", "a", last)
			checkRun(t, tree, usageOf("["), "[", "-d", "d", last)
			checkRun(t, tree, usageOf("["), "[", "]", last)
		}
	}
}

// R2: nothing of a call stays behind for the next one.
func TestAgain(t *testing.T) {
	tree := treeOf(t, "f=")
	for range 3 {
		for _, there := range []bool{true, false, true} {
			code := 1
			if there {
				code = 0
				tree.Put(list("x"), api.Node{Kind: api.Dir})
			} else {
				tree.Del(list("x"))
			}
			checkRun(t, tree, ends(code), "test", "-d", "x")
			checkRun(t, tree, usageOf("test"), "test", "-d", "x", "]")
			checkRun(t, tree, ends(1-code), "[", "!", "-e", "x", "]")
			checkRun(t, tree, ends(0), "test", "-f", "f")
			checkRun(t, tree, answer{}, "mkdir", "x")
		}
	}
}
