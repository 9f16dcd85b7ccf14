package shell_test

import (
	"fmt"
	"slices"
	"strings"
	"testing"

	"touchstone/api"
	"touchstone/dirs"
	"touchstone/ftree"
	"touchstone/moves"
	"touchstone/probe"
	"touchstone/shell"
)

// answer is what Utility answers.
type answer struct {
	code     int
	out, err string
}

func utility(f ftree.FS, words ...string) answer {
	code, out, err := shell.Utility(f, words)
	return answer{code, out, err}
}

// notFound is the answer where there is no utility of that name.
func notFound(name string) answer { return answer{127, "", name + ": not found\n"} }

// teller is a layer that knows utilities.
type teller func(f ftree.FS, words []string) (code int, out, err string, is bool)

// tellers are the layers that know utilities, by the names of these.
func tellers() map[string]teller {
	return map[string]teller{
		"mkdir": dirs.Run, "rmdir": dirs.Run, "touch": dirs.Run, "rm": dirs.Run, "mv": moves.Run, "cp": moves.Run, "ln": moves.Run,
		"echo": probe.Run, "true": probe.Run, ":": probe.Run, "false": probe.Run, "test": probe.Run, "[": probe.Run,
	}
}

// newTree is a file system of a tree.
func newTree(t *testing.T, root api.Node) *ftree.Tree {
	t.Helper()
	tree, e := ftree.New(root)
	if e != api.OK {
		t.Fatal(e)
	}
	return tree
}

// samples are trees with nodes of each Kind.
func samples(t *testing.T) []api.Node {
	t.Helper()
	return []api.Node{nodeOf(t), nodeOf(t, "a=x"), nodeOf(t, "a/", "b="), nodeOf(t, "a/b=y", "b/a/", "c>a"), nodeOf(t, "a>b", "b>a", "c/d/e/", "c/l>../c"), nodeOf(t, "a/b/c/", "b>a/b", "c=z", "d/")}
}

// someOperands are what stands behind a utility's name.
func someOperands() [][]string {
	all := [][]string{nil, list(""), list("a\x00"), list("a", "", "b"), list("a", "=", "a"), list("-d", "a", "]"), list("!", "-e", "a"), list(strings.Repeat("/", api.MaxText+1)), slices.Repeat(list("a"), 100)}
	for _, text := range list("a", "b", "c", "x", "/", "a/b", "x/y", "..", "c/l/d", "a b", "a x", "b a", "a a", "x a", "a/b b", "a b c", "b c a", "x y z d", "-p x/y", "-r a", "-f x", "-rf a b", "-s a x", "-sf x b", "-R a x", "-f a b", "-x a", "--", "-- -x", "-", "-e a", "-f a ]", "a ]", "]", "-n a", "! a", "a = b") {
		all = append(all, strings.Fields(text))
	}
	return all
}

// P15.1: each name of dirs, moves and probe is run as these run it: answer and tree.
func TestUtilityOfEachName(t *testing.T) {
	for name, tells := range tellers() {
		codes := map[int]int{}
		for _, root := range samples(t) {
			for _, operands := range someOperands() {
				words := append(list(name), operands...)
				wants, gets := newTree(t, root), newTree(t, root)
				code, out, err, is := tells(wants, slices.Clone(words))
				got := utility(gets, words...)
				if want := (answer{code, out, err}); !is || got != want {
					t.Errorf("%.200q: %.300v; want %.300v", words, got, want)
				}
				if !ftree.Same(wants.Root(), gets.Root()) {
					t.Errorf("%.200q: the tree is %v; want %v", words, gets.Root(), wants.Root())
				}
				codes[code]++
			}
		}
		if len(codes) == 0 || codes[0] == 0 && name != "false" {
			t.Errorf("%s: codes %v", name, codes)
		}
	}
}

// P15.1: some calls, by hand.
func TestUtilityByHand(t *testing.T) {
	tree := newTree(t, nodeOf(t, "f=x", "d/e="))
	for _, x := range []struct {
		words string
		want  answer
	}{
		{"mkdir f q", answer{1, "", "mkdir: f: there already\n"}}, {"rmdir q", answer{}}, {"rmdir d", answer{1, "", "rmdir: d: not empty\n"}}, {"touch f g", answer{}}, {"rm g d", answer{1, "", "rm: d: wrong kind\n"}}, {"mv f d", answer{}}, {"cp d/f h", answer{}}, {"ln -s h l", answer{}}, {"ln h m", answer{2, "", "ln: usage\n"}},
		{"echo f d", answer{0, "f d\n", ""}}, {"true f", answer{}}, {":", answer{}}, {"false", answer{1, "", ""}}, {"test -f l", answer{}}, {"test -f f", answer{1, "", ""}}, {"[ -d d ]", answer{}}, {"[ -d d", answer{2, "", "[: usage\n"}}, {"nix f", notFound("nix")},
	} {
		if got := utility(tree, strings.Fields(x.words)...); got != x.want {
			t.Errorf("%s: %v; want %v", x.words, got, x.want)
		}
	}
	if want := nodeOf(t, "d/e=", "d/f=x", "h=x", "l>h"); !ftree.Same(tree.Root(), want) {
		t.Errorf("the tree is %v; want %v", tree.Root(), want)
	}
}

// near are texts that are one byte less than another one, or more, or have another byte.
func near(text string) (all []string) {
	for i := range len(text) + 1 {
		behind := text[min(i+1, len(text)):]
		all = append(all, text[:i]+behind)
		for b := range 256 {
			front := text[:i] + string([]byte{byte(b)})
			all = append(all, front+behind, front+text[i:])
		}
	}
	return all
}

// P15.1: names that no layer has.
func TestUtilityNotFound(t *testing.T) {
	tree := newTree(t, nodeOf(t, "a/b=", "mkdir="))
	before := tree.Root()
	names := list("", " ", "exit", "set", "nix", "ls", "cd", "x=a", "!", "{", "}", "if", "while", "for", "[[", "]", "-e", "--", "/mkdir", "./rm", "mkdir a", "echo a", " echo", "MKDIR", "Test", "a", "a/b", "\x00", "\n", "\xff", strings.Repeat("mkdir", 1000))
	for name := range tellers() {
		names = append(names, near(name)...)
	}
	for _, name := range names {
		if tellers()[name] != nil {
			continue
		}
		for _, behind := range [][]string{nil, {""}, {"a"}, {"3"}, {"-e"}, {"a", "b", "c"}, {"mkdir", "x"}, {"-rf", "a"}, {"]"}} {
			if got := utility(tree, append(list(name), behind...)...); got != notFound(name) {
				t.Fatalf("%.100q %q: %.300v", name, behind, got)
			}
		}
	}
	if !ftree.Same(tree.Root(), before) {
		t.Errorf("the tree is %v", tree.Root())
	}
}

// P15.1: no words, and no file system; one that is a nil object is none.
func TestUtilityOfNothing(t *testing.T) {
	var none *ftree.Tree
	for _, f := range []ftree.FS{nil, none, none.Clone(), newTree(t, nodeOf(t, "a="))} {
		for _, words := range [][]string{nil, {}, list("echo", "a")[:0], list("mkdir")[1:]} {
			if got := utility(f, words...); got != (answer{}) {
				t.Errorf("%q: %v", words, got)
			}
		}
	}
	for _, f := range []ftree.FS{nil, none, none.Clone()} {
		for _, operands := range someOperands() {
			for name := range tellers() {
				if got := utility(f, append(list(name), operands...)...); got != (answer{}) {
					t.Errorf("%s %.100q: %v", name, operands, got)
				}
			}
			for _, name := range list("", "nix", "exit", "set", "mkdi", "a") {
				if got := utility(f, append(list(name), operands...)...); got != (answer{}) {
					t.Errorf("%s %.100q: %v", name, operands, got)
				}
			}
		}
	}
}

// spy is a file system that throws where a thing is asked of it.
type spy struct {
	ftree.FS
	throws string
	asked  []string
}

func (s *spy) note(what string, place []string) {
	what = fmt.Sprintf("%s %q", what, place)
	s.asked = append(s.asked, what)
	if what == s.throws {
		panic(what)
	}
}

func (s *spy) Kind(place []string) uint8 {
	s.note("Kind", place)
	return s.FS.Kind(place)
}

func (s *spy) Text(place []string) string {
	s.note("Text", place)
	return s.FS.Text(place)
}

func (s *spy) Empty(place []string) bool {
	s.note("Empty", place)
	return s.FS.Empty(place)
}

// What a file system throws goes on to the caller of Utility, as chapter 26 needs it.
func TestUtilityThrows(t *testing.T) {
	for _, text := range list("mkdir a", "mkdir -p a/b", "rmdir d", "touch f", "rm -r d", "mv f d", "cp l g", "ln -sf x l", "test -e l", "[ -d d ]") {
		first := &spy{FS: newTree(t, nodeOf(t, "f=x", "d/e=", "l>f"))}
		utility(first, strings.Fields(text)...)
		for _, what := range first.asked {
			thrown := func() (thrown any) {
				defer func() { thrown = recover() }()
				utility(&spy{FS: newTree(t, nodeOf(t, "f=x", "d/e=", "l>f")), throws: what}, strings.Fields(text)...)
				return nil
			}()
			if thrown != what {
				t.Errorf("%s, where %s is thrown: %v", text, what, thrown)
			}
		}
		if len(first.asked) == 0 {
			t.Errorf("%s asks nothing", text)
		}
	}
}

// What is asked of a file system is what the utility asks of it: a name that there is not asks for the root alone, which
// is always known.
func TestUtilityAsks(t *testing.T) {
	for _, text := range list("nix", "nix a b", "exit", "echo a", "true", "false a", "test a = b", "mkdir", "rm -f") {
		s := &spy{FS: newTree(t, nodeOf(t, "a="))}
		utility(s, strings.Fields(text)...)
		if slices.ContainsFunc(s.asked, func(what string) bool { return what != "Kind []" }) {
			t.Errorf("%s asks %q", text, s.asked)
		}
	}
	for _, text := range list("mkdir a", "rm a", "mv a b", "test -e a") {
		words := strings.Fields(text)
		s, alone := &spy{FS: newTree(t, nodeOf(t, "a="))}, &spy{FS: newTree(t, nodeOf(t, "a="))}
		utility(s, words...)
		tellers()[words[0]](alone, words)
		beside := func(asked []string) []string {
			return slices.DeleteFunc(asked, func(what string) bool { return what == "Kind []" })
		}
		if !slices.Equal(beside(s.asked), beside(alone.asked)) || len(s.asked) == 0 {
			t.Errorf("%s asks %q; by itself %q", text, s.asked, alone.asked)
		}
	}
}
