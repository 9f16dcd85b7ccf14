package moves_test

import (
	"fmt"
	"math"
	"slices"
	"strings"
	"testing"

	"touchstone/api"
	"touchstone/ftree"
	"touchstone/moves"
)

// sample has in its root, and in a directory below it, a node of each Kind, and links that lead to all sorts of places.
func sample() api.Node {
	return nodeOf(
		"f=x", "g=y", "e/", "d/f=z", "d/e/", "d/d/h=", "d/l>f", "d/up>..",
		"to-f>f", "to-d>d", "to-e>e", "to-x>x", "to-link>to-d", "to-dx>d/x", "to-xy>x/y", "to-fx>f/x",
		"to-root>/", "to-itself>to-itself", "to-d-slash>d/", "to-x-slash>x/",
	)
}

func list(words ...string) []string { return words }

// wordsOf are the words of a call, and words behind them.
func wordsOf(call string, behind ...string) []string { return append(strings.Fields(call), behind...) }

// answer is what Run answers.
type answer struct {
	code     int
	out, err string
	is       bool
}

// text is an answer by a text.
func (a answer) text() string { return fmt.Sprintf("%d, %q, %q, %v", a.code, a.out, a.err, a.is) }

func run(f ftree.FS, words ...string) answer {
	code, out, err, is := moves.Run(f, words)
	return answer{code, out, err, is}
}

// done is the answer where nothing is refused.
var done = answer{is: true}

// usageOf is the answer where a utility's words are wrong.
func usageOf(name string) answer { return answer{2, "", name + ": usage\n", true} }

// refusal is the line that tells that an operand is refused.
func refusal(name, operand, why string) string { return name + ": " + operand + ": " + why + "\n" }

// refusedBy is the answer where one operand alone is refused.
func refusedBy(name, operand, why string) answer {
	return answer{1, "", refusal(name, operand, why), true}
}

// wrongBy is the answer that a text stands for: nothing, or usage, or refused operands and why, with a comma between.
func wrongBy(name, wrong string) answer {
	switch wrong {
	case "":
		return done
	case "usage":
		return usageOf(name)
	}
	return answer{1, "", name + ": " + strings.ReplaceAll(wrong, ", ", "\n"+name+": ") + "\n", true}
}

// checkRun checks what a call answers over a tree, and what it changes there.
func checkRun(t *testing.T, root api.Node, want answer, changed string, words ...string) {
	t.Helper()
	tree := treeOf(t, root)
	if got := run(tree, words...); got != want {
		t.Errorf("%.300q: %.300s; want %.300s", words, got.text(), want.text())
	}
	if got := changes(flatOf(root), flatOf(tree.Root())); got != changed {
		t.Errorf("%.300q changes %.300q; want %.300q", words, got, changed)
	}
	if !ftree.Well(tree.Root()) {
		t.Errorf("behind %.300q the root is not well formed: %v", words, tree.Root())
	}
}

// row is a call, what is wrong with it (wrongBy), and what it changes.
type row struct{ call, wrong, changed string }

func checkRows(t *testing.T, root api.Node, rows ...row) {
	t.Helper()
	for _, r := range rows {
		words := strings.Fields(r.call)
		checkRun(t, root, wrongBy(words[0], r.wrong), r.changed, words...)
	}
}

// The chapter's examples.
func TestExamples(t *testing.T) {
	checkRows(t, nodeOf("a=x", "d/e="),
		row{"mv a d", "", "+d/a=x -a=x"},
		row{"mv a b c", "c: not there", ""},
		row{"mv d d", "d: into itself", ""},
		row{"cp d q", "d: wrong kind", ""},
		row{"cp -r d q", "", "+q/ +q/e="},
		row{"ln -s a l", "", "+l>a"},
		row{"ln a b", "usage", ""},
		row{"mv a", "usage", ""},
	)
	checkRows(t, nodeOf("a=x", "d/e=", "l>a"), row{"cp l m", "", "+m=x"})
}

// P13.1: words that are none.
func TestNoWords(t *testing.T) {
	for _, f := range []ftree.FS{nil, treeOf(t, sample())} {
		for _, words := range [][]string{nil, {}, list("mv", "f", "x")[:0]} {
			if got := run(f, words...); got != (answer{}) {
				t.Errorf("%q: %s", words, got.text())
			}
		}
	}
}

func names() []string { return list("mv", "cp", "ln") }

// near are texts that are one byte more than another one, or less, or another byte.
func near(text string) (all []string) {
	for i := range len(text) + 1 {
		if i < len(text) {
			all = append(all, text[:i]+text[i+1:])
		}
		for b := range 256 {
			other := string([]byte{byte(b)})
			all = append(all, text[:i]+other+text[i:])
			if i < len(text) {
				all = append(all, text[:i]+other+text[i+1:])
			}
		}
	}
	return all
}

// P13.1: a first word that is no name of a utility that there is here, whatever stands behind it.
func TestNoUtility(t *testing.T) {
	tree := treeOf(t, sample())
	words := list("", " ", "mkdir", "rmdir", "touch", "rm", "test", "[", "echo", "true", "exit", "set", "rename", "link", "MV", "Cp", "mv -f", "ln -s", "/mv", "./cp", "mvcp", "mv mv", "-f", "--", strings.Repeat("mv", 1000))
	for _, name := range names() {
		words = append(words, near(name)...)
	}
	for _, word := range words {
		if slices.Contains(names(), word) {
			continue
		}
		for _, behind := range [][]string{nil, {"f"}, {"f", "x"}, {"-s", "f", "x"}, {"-x"}, {"f", "g", "d"}, {"mv", "f", "x"}, {""}} {
			if got := run(tree, append(list(word), behind...)...); got != (answer{}) {
				t.Fatalf("%q %q: %s", word, behind, got.text())
			}
		}
	}
	if !ftree.Same(tree.Root(), sample()) {
		t.Errorf("the tree is %v", tree.Root())
	}
}

// P13.1: no file system, whatever the words; one that is a nil object is none.
func TestNoFileSystem(t *testing.T) {
	var none *ftree.Tree
	for _, f := range []ftree.FS{nil, none, none.Clone()} {
		for _, name := range append(names(), "ls", "") {
			for _, behind := range [][]string{nil, {"a"}, {"a", "b"}, {"-f", "a", "b"}, {"-s", "a", "b"}, {"-x"}, {"--"}, {"a", "/"}, {"a", "b", "/"}, {"-s", "a", ""}, {"", "\x00"}} {
				if got := run(f, append(list(name), behind...)...); got != (answer{}) {
					t.Errorf("%q %q: %s", name, behind, got.text())
				}
			}
		}
	}
}

// P13.1: fewer than two operands are usage, whatever they are, and change nothing.
func TestTooFewOperands(t *testing.T) {
	for _, call := range list("mv", "mv -f", "cp", "cp -r", "cp -R", "cp -rRf", "cp -f -r", "ln", "ln -s", "ln -f", "ln -sf", "ln -s -f") {
		name := strings.Fields(call)[0]
		for _, behind := range [][]string{nil, {"--"}, {"f"}, {"--", "f"}, {"f/x"}, {"x"}, {""}, {"-"}, {"\x00"}, {"/"}, {"--", "-f"}, {"--", "--"}, {"to-itself"}} {
			checkRun(t, sample(), usageOf(name), "", wordsOf(call, behind...)...)
		}
	}
}

// P13.1: two operands, and several.
func TestEnoughOperands(t *testing.T) {
	checkRows(t, sample(),
		row{"mv f x", "", "+x=x -f=x"}, row{"mv f e", "", "+e/f=x -f=x"},
		row{"mv f g e", "", "+e/f=x +e/g=y -f=x -g=y"}, row{"mv f g d/d e", "", "+e/d/ +e/d/h= +e/f=x +e/g=y -d/d/ -d/d/h= -f=x -g=y"},
		row{"cp f x", "", "+x=x"}, row{"cp f e", "", "+e/f=x"},
		row{"cp f g e", "", "+e/f=x +e/g=y"}, row{"cp -r f g d/d e", "", "+e/d/ +e/d/h= +e/f=x +e/g=y"},
		row{"ln -s f x", "", "+x>f"}, row{"ln -s f e", "", "+e/f>f"},
		row{"ln -s f t/g e", "", "+e/f>f +e/g>t/g"}, row{"ln -s f g h i e", "", "+e/f>f +e/g>g +e/h>h +e/i>i"},
	)
}

// knownOptions are the letters that each utility knows.
func knownOptions() map[string]string { return map[string]string{"mv": "f", "cp": "Rrf", "ln": "sf"} }

// P13.1: each byte as an option of each utility: those that are not known are usage, whatever the operands, and change
// nothing.
func TestUnknownOptions(t *testing.T) {
	for name, letters := range knownOptions() {
		for b := range 256 {
			option := string([]byte{byte(b)})
			if option == "-" || strings.Contains(letters, option) {
				continue
			}
			for _, words := range [][]string{
				{name, "-" + option}, {name, "-" + option, "f", "x"}, {name, "-" + letters, "-" + option, "f", "x"}, {name, "-" + letters + option, "f", "g", "d"},
				{name, "-" + option + letters, "f", "x"}, {name, "-" + letters, "-" + option, "--", "f", "x"}, {name, "-" + option, "-" + letters, "x", "y"},
			} {
				checkRun(t, sample(), usageOf(name), "", words...)
			}
		}
		for _, word := range list("---", "--f", "--r", "--s", "--sf", "--force", "--recursive", "--symbolic", "-"+letters+"-", "-f-") {
			checkRun(t, sample(), usageOf(name), "", name, word, "-"+letters, "f", "x")
			checkRun(t, sample(), usageOf(name), "", name, "-"+letters, word, "f", "x")
		}
	}
}

// P13.1: letters that another utility knows are usage.
func TestOptionsOfOthers(t *testing.T) {
	for _, call := range list("mv -r", "mv -R", "mv -s", "mv -rf", "mv -sf", "mv -F", "cp -s", "cp -rs", "cp -F", "cp -p", "ln -sr", "ln -sR", "ln -s -r", "ln -S", "ln -sn") {
		checkRun(t, sample(), usageOf(call[:2]), "", wordsOf(call, "f", "x")...)
		checkRun(t, sample(), usageOf(call[:2]), "", wordsOf(call, "f", "g", "d")...)
	}
}

// P13.1: ln without s is usage, whatever else there is: an s behind -- or behind an operand is no option.
func TestLnWithoutS(t *testing.T) {
	for _, call := range list("ln", "ln -f", "ln -ff", "ln --", "ln -f --") {
		for _, behind := range [][]string{nil, {"f"}, {"f", "x"}, {"f", "g", "d"}, {"", "x"}, {"f", ""}, {"f", "-s", "x"}, {"f", "x", "-s"}, {"x", "f/x"}} {
			checkRun(t, sample(), usageOf("ln"), "", wordsOf(call, behind...)...)
		}
	}
	checkRows(t, sample(), row{"ln -- -s x", "usage", ""}, row{"ln -f -- -s x", "usage", ""}, row{"ln -f -- -sf x d", "usage", ""})
}

// P13.1: options told one by one, together, in another row, twice, and with -- behind them.
func TestOptions(t *testing.T) {
	check := func(name, options, operands, wrong, changed string) {
		t.Helper()
		checkRows(t, sample(), row{name + " " + options + " " + operands, wrong, changed})
	}
	for _, options := range list("", "--", "-f", "-ff", "-f -f", "-f --", "-fff -f --") {
		check("mv", options, "f x", "", "+x=x -f=x")
		check("mv", options, "f g", "", "+g=x -f=x -g=y")
		check("mv", options, "x g", "x: not there", "")
		check("cp", options, "f g", "", "+g=x -g=y")
		check("cp", options, "e x", "e: wrong kind", "")
		check("cp", options, "to-f x", "", "+x=x")
		check("cp", options, "f e g d", "e: wrong kind", "+d/f=x +d/g=y -d/f=z")
	}
	for _, options := range list("-r", "-R", "-rr", "-R -R", "-rR", "-R -r", "-rf", "-fR", "-f -r", "-R -f", "-fr -Rf", "-r --", "-R --", "-f -R --", "-rRfRrf") {
		check("cp", options, "f g", "", "+g=x -g=y")
		check("cp", options, "e x", "", "+x/")
		check("cp", options, "to-f x", "", "+x>f")
		check("cp", options, "x e d/d g", "g: wrong kind", "")
	}
	for _, options := range list("-s", "-ss", "-s -s", "-s --", "-ss -s --") {
		check("ln", options, "t x", "", "+x>t")
		check("ln", options, "t f", "t: there already", "")
	}
	for _, options := range list("-sf", "-fs", "-s -f", "-f -s", "-sfs", "-ff -s", "-fsfs -f -s", "-sf --", "-f -s --") {
		check("ln", options, "t x", "", "+x>t")
		check("ln", options, "t f", "", "+f>t -f=x")
	}
}

// P13.1: behind -- and behind the first operand, words that begin by - are operands; so is - alone.
func TestOperandsThatBeginByADash(t *testing.T) {
	checkRows(t, nodeOf("-=1", "-f=2", "-r/x=", "--=3", "d/", "a="),
		row{"mv -- -f x", "", "+x=2 --f=2"}, row{"mv - x", "", "+x=1 --=1"}, row{"mv -- -- x", "", "+x=3 ---=3"}, row{"mv a -f", "", "+-f= --f=2 -a="},
		row{"mv a -f d", "", "+d/-f=2 +d/a= --f=2 -a="}, row{"mv - -- d", "", "+d/--=3 +d/-=1 ---=3 --=1"}, row{"mv -f -f x", "usage", ""}, row{"mv -f -- -f -r", "", "+-r/-f=2 --f=2"},
		row{"cp -- -r x", "-r: wrong kind", ""}, row{"cp -r -- -r x", "", "+x/ +x/x="}, row{"cp -r -r x", "usage", ""}, row{"cp a -r", "", "+-r/a="}, row{"cp -r a -r x", "x: not there", ""},
		row{"ln -s -- -f x", "", "+x>-f"}, row{"ln -s -f x", "usage", ""}, row{"ln -s - x", "", "+x>-"}, row{"ln -s -- -s -- d", "", "+d/-->-- +d/-s>-s"}, row{"ln -s a -f", "a: there already", ""},
	)
}

// R2: nothing of a call stays behind for the next one.
func TestAgain(t *testing.T) {
	for range 3 {
		tree := treeOf(t, nodeOf("a=x", "d/"))
		for _, r := range []row{
			{"mv a b", "", ""}, {"mv a b", "a: not there", ""}, {"cp b", "usage", ""}, {"cp b c", "", ""}, {"cp d q", "d: wrong kind", ""}, {"cp -r d q", "", ""}, {"cp d r", "d: wrong kind", ""},
			{"mv q b", "q: wrong kind", ""}, {"mv b c d", "", ""}, {"ln -s c d", "c: there already", ""}, {"ln -sf c d", "", ""}, {"ln -s c d", "c: there already", ""}, {"ln c d", "usage", ""}, {"mv d/b d/c .", "", ""}, {"ls", "none", ""},
		} {
			words := strings.Fields(r.call)
			want := wrongBy(words[0], r.wrong)
			if r.wrong == "none" {
				want = answer{}
			}
			if got := run(tree, words...); got != want {
				t.Errorf("%s: %s; want %s", r.call, got.text(), want.text())
			}
		}
		if got := changes(flatOf(nodeOf("a=x", "d/")), flatOf(tree.Root())); got != "+b=x +c>c +q/ -a=x" {
			t.Errorf("then: %q", got)
		}
	}
}

// P13.1: the reason's word of each number.
func TestWhy(t *testing.T) {
	words := map[api.Errno]string{
		api.ErrNone: "not there", api.ErrTwice: "there already", api.ErrKind: "wrong kind", api.ErrBusy: "not empty",
		api.ErrInto: "into itself", api.ErrLoop: "too many links", api.ErrTooLarge: "too large", api.ErrForm: "bad name",
	}
	numbers := []api.Errno{math.MinInt, math.MinInt + 1, math.MaxInt, math.MaxInt - 1, math.MinInt32, math.MaxInt32}
	for e := api.Errno(-256); e <= 512; e++ {
		numbers = append(numbers, e)
	}
	for e := range words {
		numbers = append(numbers, -e, e+256, e+1<<16, e+1<<32, e-1<<32, e+math.MinInt)
	}
	for _, e := range numbers {
		want, ok := words[e]
		if !ok {
			want = "error"
		}
		if got := moves.Why(e); got != want {
			t.Errorf("Why(%d) = %q; want %q", e, got, want)
		}
	}
}
