package dirs_test

import (
	"fmt"
	"math"
	"slices"
	"strings"
	"testing"

	"touchstone/api"
	"touchstone/dirs"
	"touchstone/ftree"
)

// sample has in its root, and in a directory below it, a node of each Kind, and links that lead to all sorts of places.
func sample() api.Node {
	return nodeOf(
		"f=x", "e/", "d/f=y", "d/e/", "d/d/f=", "d/l>f", "d/up>..",
		"to-d>d", "to-dd>d/d", "to-e>e", "to-f>f", "to-df>/d/f", "to-link>to-e",
		"to-x>x", "to-dx>d/x", "to-xy>x/y", "to-fx>f/x", "to-d-slash>d/", "to-e-slash>e/", "to-x-slash>x/", "to-f-slash>f/",
		"to-root>/", "to-itself>to-itself", "to-bad>d/\n", "to-dot>d/.", "to-up>d/..", "...=",
	)
}

func list(words ...string) []string { return words }

// answer is what Run answers.
type answer struct {
	code     int
	out, err string
	is       bool
}

// text is an answer by a text.
func (a answer) text() string { return fmt.Sprintf("%d, %q, %q, %v", a.code, a.out, a.err, a.is) }

func run(f ftree.FS, words ...string) answer {
	code, out, err, is := dirs.Run(f, words)
	return answer{code, out, err, is}
}

// refusal is the line that tells that an operand is refused.
func refusal(name, operand, why string) string { return name + ": " + operand + ": " + why + "\n" }

// usageOf is the answer where a utility's words are wrong.
func usageOf(name string) answer { return answer{2, "", name + ": usage\n", true} }

// refusedBy is the answer where one operand alone is refused.
func refusedBy(name, operand, why string) answer {
	return answer{1, "", refusal(name, operand, why), true}
}

// done is the answer where nothing is refused.
var done = answer{is: true}

// checkRun checks what a call answers over a tree, and what it changes there.
func checkRun(t *testing.T, root api.Node, want answer, changed string, words ...string) {
	t.Helper()
	tree := treeOf(t, root)
	if got := run(tree, words...); got != want {
		t.Errorf("%.300q: %.300s; want %.300s", words, got.text(), want.text())
	}
	if got := changes(flatOf(root), flatOf(tree.Root())); got != changed {
		t.Errorf("%.300q changes %.300q; want %.300q", words, got, changed)
	}
	if !ftree.Well(tree.Root()) {
		t.Errorf("behind %.300q the root is not well formed: %v", words, tree.Root())
	}
}

// row is an operand, why it is refused (if it is), and what is changed.
type row struct{ operand, why, changed string }

// checkRows checks a call with each operand over the sample.
func checkRows(t *testing.T, call string, rows ...row) {
	t.Helper()
	words := strings.Fields(call)
	for _, r := range rows {
		want := done
		if r.why != "" {
			want = refusedBy(words[0], r.operand, r.why)
		}
		checkRun(t, sample(), want, r.changed, append(slices.Clone(words), r.operand)...)
	}
}

// The chapter's examples.
func TestExamples(t *testing.T) {
	root := nodeOf("a=x", "d/e=")
	checkRun(t, root, refusedBy("mkdir", "a", "there already"), "+d/x/", "mkdir", "a", "d/x")
	checkRun(t, root, done, "+d/p/ +d/p/q/", "mkdir", "-p", "d/p/q")
	checkRun(t, root, refusedBy("rmdir", "d", "not empty"), "", "rmdir", "d")
	checkRun(t, root, refusedBy("rm", "d", "wrong kind"), "", "rm", "d")
	checkRun(t, root, done, "-d/ -d/e=", "rm", "-rf", "d", "z")
	checkRun(t, root, usageOf("rm"), "", "rm")
	checkRun(t, root, answer{}, "", "ls")
}

// P12.1: words that are none.
func TestNoWords(t *testing.T) {
	for _, f := range []ftree.FS{nil, treeOf(t, sample())} {
		for _, words := range [][]string{nil, {}, list("mkdir", "x")[:0]} {
			if got := run(f, words...); got != (answer{}) {
				t.Errorf("%q: %+v", words, got)
			}
		}
	}
}

func names() []string { return list("mkdir", "rmdir", "touch", "rm") }

// near are texts that are one byte more than another one, or less, or another byte.
func near(text string) (all []string) {
	for i := range len(text) + 1 {
		if i < len(text) {
			all = append(all, text[:i]+text[i+1:])
		}
		for b := range 256 {
			all = append(all, text[:i]+string([]byte{byte(b)})+text[i:])
			if i < len(text) {
				all = append(all, text[:i]+string([]byte{byte(b)})+text[i+1:])
			}
		}
	}
	return all
}

// P12.1: a first word that is no name of a utility that there is here, whatever stands behind it.
func TestNoUtility(t *testing.T) {
	tree := treeOf(t, sample())
	words := list("", " ", "mv", "cp", "ln", "test", "[", "echo", "true", "false", ":", "exit", "set", "ls", "unlink", "MKDIR", "Rm", "mkdir -p", "/mkdir", "./rm", "rm rm", "rmrm", "mkdirs", "p", "-p", "-", "--", "mkdir\x00", "rm\n", "r\xffm", strings.Repeat("rm", 1000))
	for _, name := range names() {
		words = append(words, near(name)...)
	}
	for _, word := range words {
		if slices.Contains(names(), word) {
			continue
		}
		for _, behind := range [][]string{nil, {"x"}, {"e"}, {"-p", "x"}, {"-x"}, {"-rf", "d"}, {"mkdir", "x"}, {""}} {
			if got := run(tree, append(list(word), behind...)...); got != (answer{}) {
				t.Fatalf("%q %q: %+v", word, behind, got)
			}
		}
	}
	if !ftree.Same(tree.Root(), sample()) {
		t.Errorf("the tree is %v", tree.Root())
	}
}

// P12.1: no file system, whatever the words; one that is a nil object is none.
func TestNoFileSystem(t *testing.T) {
	var none *ftree.Tree
	for _, f := range []ftree.FS{nil, none, none.Clone()} {
		for _, name := range append(names(), "ls", "") {
			for _, behind := range [][]string{nil, {"a"}, {"a", "b"}, {"-p", "a"}, {"-f"}, {"-rf", "a"}, {"-x"}, {"--"}, {"--", "a"}, {"/"}, {".."}, {""}, {"\x00"}} {
				if got := run(f, append(list(name), behind...)...); got != (answer{}) {
					t.Errorf("%q %q: %+v", name, behind, got)
				}
			}
		}
	}
}

// P12.1: too few operands is usage, but for rm with f.
func TestNoOperands(t *testing.T) {
	for _, call := range list("mkdir", "mkdir -p", "mkdir --", "mkdir -p --", "mkdir -pp -p", "rmdir", "rmdir --", "touch", "touch --", "rm", "rm --", "rm -r", "rm -r --", "rm -rr -r") {
		words := strings.Fields(call)
		checkRun(t, sample(), usageOf(words[0]), "", words...)
	}
	for _, call := range list("rm -f", "rm -f --", "rm -rf", "rm -fr --", "rm -r -f", "rm -f -r", "rm -ff") {
		checkRun(t, sample(), done, "", strings.Fields(call)...)
	}
}

// P12.1: each byte as an option of each utility: those that are not known are usage, whatever the operands, and change
// nothing.
func TestUnknownOptions(t *testing.T) {
	known := map[string]string{"mkdir": "p", "rmdir": "", "touch": "", "rm": "fr"}
	for name, letters := range known {
		for b := range 256 {
			option := string([]byte{byte(b)})
			if option == "-" || strings.Contains(letters, option) {
				continue
			}
			for _, words := range [][]string{
				{name, "-" + option}, {name, "-" + option, "x"}, {name, "-" + option, "e", "f"}, {name, "-" + letters + option, "e"}, {name, "-" + option + letters, "f"}, {name, "-" + option, "--", "e"},
			} {
				checkRun(t, sample(), usageOf(name), "", words...)
			}
			if letters != "" {
				checkRun(t, sample(), usageOf(name), "", name, "-"+letters, "-"+option, "e")
			}
		}
		for _, word := range list("---", "--p", "--f", "--r", "--rf", "--x", "--parents", "--force", "-p-", "-f-", "-r-", "-rf-", "-rfx") {
			checkRun(t, sample(), usageOf(name), "", name, word, "e", "f", "x")
		}
	}
}

// P12.1: letters that another utility knows are usage.
func TestOptionsOfOthers(t *testing.T) {
	for _, call := range list("rmdir -p e", "rmdir -r e", "rmdir -f e", "rmdir -rf", "touch -p x", "touch -f x", "touch -r x", "touch -f", "mkdir -r x", "mkdir -f x", "mkdir -f", "mkdir -pr x", "rm -p f", "rm -rfp f", "rm -R d", "rm -F f", "mkdir -P x") {
		words := strings.Fields(call)
		checkRun(t, sample(), usageOf(words[0]), "", words...)
	}
}

// P12.1: options told one by one, together, in another row, twice, and with -- behind them.
func TestOptions(t *testing.T) {
	gone := "-d/ -d/d/ -d/d/f= -d/e/ -d/f=y -d/l>f -d/up>.."
	for _, options := range list("-rf", "-fr", "-r -f", "-f -r", "-ff -r", "-rfr", "-r -r -f", "-rf --", "-r -f --", "-rffrrf -rf -f") {
		checkRun(t, sample(), done, gone, append(append(list("rm"), strings.Fields(options)...), "d", "x")...)
	}
	for _, options := range list("-p", "-pp", "-p -p", "-p --", "-ppp -p --") {
		checkRun(t, sample(), done, "+x/ +x/y/", append(append(list("mkdir"), strings.Fields(options)...), "x/y", "d")...)
	}
	for _, options := range list("-r", "-rr", "-r --") {
		checkRun(t, sample(), refusedBy("rm", "x", "not there"), gone, append(append(list("rm"), strings.Fields(options)...), "d", "x")...)
	}
	for _, options := range list("-f", "-ff", "-f --") {
		checkRun(t, sample(), refusedBy("rm", "d", "wrong kind"), "", append(append(list("rm"), strings.Fields(options)...), "d", "x")...)
	}
}

// P12.1: behind -- and behind the first operand, words that begin by - are operands; so is - alone.
func TestOperandsThatBeginByADash(t *testing.T) {
	odd := nodeOf("-=", "-f=", "-r=", "--=", "-rf/x=", "-p/", "f=", "d/")
	checkRun(t, odd, done, "--f=", "rm", "--", "-f")
	checkRun(t, odd, done, "--f= --r=", "rm", "-f", "--", "-r", "-x", "-f")
	checkRun(t, odd, done, "---=", "rm", "--", "--")
	checkRun(t, odd, done, "--=", "rm", "-")
	checkRun(t, odd, done, "--f= -f=", "rm", "f", "-f")
	checkRun(t, odd, done, "--f= --r=", "rm", "-r", "--", "-f", "-r")
	checkRun(t, odd, answer{1, "", refusal("rm", "d", "wrong kind") + refusal("rm", "-rf", "wrong kind"), true}, "", "rm", "d", "-rf")
	checkRun(t, odd, refusedBy("rm", "-x", "not there"), "---= -f=", "rm", "f", "--", "-x")
	checkRun(t, nodeOf(), done, "+-p/", "mkdir", "--", "-p")
	checkRun(t, nodeOf(), done, "+-p/ +-p/-p/", "mkdir", "-p", "--", "-p/-p")
	checkRun(t, nodeOf(), done, "+-/ +-p/ +x/", "mkdir", "-", "x", "-p")
	checkRun(t, nodeOf(), refusedBy("mkdir", "x/y", "not there"), "+-p/", "mkdir", "--", "-p", "x/y")
	checkRun(t, nodeOf(), done, "+--= +-= +-c=", "touch", "-", "-c", "--")
	checkRun(t, odd, done, "--p/ -d/", "rmdir", "d", "-p")
}

// P12.1: all operands are done in their row, whatever is refused; each refused one has its line.
func TestSeveralOperands(t *testing.T) {
	lines := func(name string, rest ...string) answer {
		var err strings.Builder
		for i := 0; i < len(rest); i += 2 {
			err.WriteString(refusal(name, rest[i], rest[i+1]))
		}
		return answer{1, "", err.String(), true}
	}
	checkRun(t, sample(), done, "+x/ +y/", "mkdir", "x", "y")
	checkRun(t, sample(), done, "+x/ +x/y/ +x/y/z/", "mkdir", "x", "x/y", "x/y/z")
	checkRun(t, sample(), lines("mkdir", "x/y", "not there"), "+x/", "mkdir", "x/y", "x")
	checkRun(t, sample(), lines("mkdir", "x", "there already", "x", "there already"), "+x/", "mkdir", "x", "x", "x")
	checkRun(t, sample(), lines("mkdir", "f", "there already", "", "bad name", "y/z", "not there", "f/x", "wrong kind"), "+x/ +y/ +z/", "mkdir", "f", "x", "", "y/z", "y", "f/x", "z")
	checkRun(t, sample(), lines("mkdir", "f", "wrong kind", "d/f/x", "wrong kind"), "+x/ +x/y/ +z/", "mkdir", "-p", "f", "x/y", "d", "d/f/x", "z")
	checkRun(t, sample(), lines("rmdir", "d", "not empty", "x", "not there", "e", "not there"), "-d/e/ -e/", "rmdir", "d", "e", "x", "d/e", "e")
	checkRun(t, nodeOf("a/b/c/"), done, "-a/ -a/b/ -a/b/c/", "rmdir", "a/b/c", "a/b", "a")
	checkRun(t, nodeOf("a/b/c/"), lines("rmdir", "a", "not empty", "a/b", "not empty"), "-a/b/c/", "rmdir", "a", "a/b", "a/b/c")
	checkRun(t, sample(), lines("touch", "y/", "not there", "to-x", "not there", "f/x", "wrong kind"), "+d/x= +x= +z=", "touch", "y/", "d", "to-x", "x", "to-x", "d/x", "f/x", "f", "z")
	checkRun(t, sample(), lines("rm", "x", "not there", "d", "wrong kind", "f", "not there"), "-d/f=y -f=x", "rm", "f", "x", "d", "d/f", "f")
	checkRun(t, sample(), lines("rm", "d", "wrong kind", "", "bad name"), "-f=x", "rm", "-f", "x", "d", "f", "", "f")
	checkRun(t, sample(), lines("rm", "x", "not there", "e", "not there"), "-e/ -f=x", "rm", "-r", "x", "e", "f", "e")
	checkRun(t, sample(), lines("rm", "/", "not empty"), "-e/ -f=x", "rm", "-rf", "/", "x", "e", "f", "e")
}

// P12.1: a call of as many words as a command may have; the first one and the last one count, too.
func TestManyOperands(t *testing.T) {
	words, twice := list("mkdir"), ""
	tree := treeOf(t, sample())
	for i := range api.MaxArgs - 1 {
		operand := "m" + strings.Repeat("n", i)
		words, twice = append(words, operand), twice+refusal("mkdir", operand, "there already")
	}
	if got := run(tree, words...); got != done {
		t.Errorf("many operands: %+v", got)
	}
	if got := run(tree, words...); got != (answer{1, "", twice, true}) {
		t.Errorf("many operands again: %+v", got)
	}
	words[0] = "rmdir"
	if got := run(tree, words...); got != done || !ftree.Same(tree.Root(), sample()) {
		t.Errorf("many operands taken away: %+v, then %v", got, tree.Root())
	}
}

// R2: nothing of a call stays behind for the next one.
func TestAgain(t *testing.T) {
	tree := treeOf(t, nodeOf("f="))
	for range 3 {
		for _, x := range []struct {
			call string
			want answer
		}{
			{"mkdir -p a/b", done}, {"mkdir a/b/c/d", refusedBy("mkdir", "a/b/c/d", "not there")}, {"rm -rf a", done}, {"rm a", refusedBy("rm", "a", "not there")}, {"rm -f a", done}, {"rm -r a", refusedBy("rm", "a", "not there")},
			{"rm", usageOf("rm")}, {"mkdir a", done}, {"rm -f a", refusedBy("rm", "a", "wrong kind")}, {"rm -r a", done}, {"rm -f", done}, {"rm -r", usageOf("rm")}, {"touch f", done}, {"ls", answer{}},
		} {
			if got := run(tree, strings.Fields(x.call)...); got != x.want {
				t.Errorf("%s: %+v; want %+v", x.call, got, x.want)
			}
		}
	}
	if got := changes(flatOf(nodeOf("f=")), flatOf(tree.Root())); got != "" {
		t.Errorf("then: %q", got)
	}
}

// P12.2: the reason's word of each number.
func TestReason(t *testing.T) {
	words := map[api.Errno]string{
		api.ErrNone: "not there", api.ErrTwice: "there already", api.ErrKind: "wrong kind", api.ErrBusy: "not empty",
		api.ErrInto: "into itself", api.ErrLoop: "too many links", api.ErrTooLarge: "too large", api.ErrForm: "bad name",
	}
	numbers := []api.Errno{math.MinInt, math.MinInt + 1, math.MaxInt, math.MaxInt - 1, math.MinInt32, math.MaxInt32}
	for e := api.Errno(-256); e <= 512; e++ {
		numbers = append(numbers, e)
	}
	for e := range words {
		numbers = append(numbers, -e, e+256, e+1<<16, e+1<<32, e-1<<32, e+math.MinInt)
	}
	for _, e := range numbers {
		want, ok := words[e]
		if !ok {
			want = "wrong"
		}
		if got := dirs.Reason(e); got != want {
			t.Errorf("Reason(%d) = %q; want %q", e, got, want)
		}
	}
}
