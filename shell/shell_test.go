package shell_test

import (
	"fmt"
	"strings"
	"testing"

	"touchstone/api"
	"touchstone/ftree"
	"touchstone/path"
	"touchstone/shell"
	"touchstone/spell"
	"touchstone/syntax"
)

func list(words ...string) []string { return words }

// enough is more fuel than the runs of these tests take that end.
const enough = 100000

// nodeOf is a tree in which that stands, in its row: behind a directory's path there is / , behind a file's = and its
// text, behind a link's > and its text. Directories that are missing on the way are made.
func nodeOf(t *testing.T, texts ...string) api.Node {
	t.Helper()
	tree, e := ftree.New(api.Node{Kind: api.Dir})
	for _, text := range texts {
		at, n := text, api.Node{Kind: api.Dir}
		if before, behind, ok := strings.Cut(text, ">"); ok {
			at, n = before, api.Node{Kind: api.Link, Text: behind}
		} else if before, behind, ok := strings.Cut(text, "="); ok {
			at, n = before, api.Node{Kind: api.File, Text: behind}
		}
		place := path.Clean(at)
		for i := range place {
			if tree.Kind(place[:i]) == api.Absent {
				tree.Put(place[:i], api.Node{Kind: api.Dir})
			}
		}
		if tree.Put(place, n); tree.Kind(place) != n.Kind {
			t.Fatalf("%q does not stand", text)
		}
	}
	if e != api.OK || !ftree.May(tree.Root()) {
		t.Fatalf("%q is no tree: %d", texts, e)
	}
	return tree.Root()
}

// parsed is a script's command.
func parsed(t *testing.T, script string) api.Cmd {
	t.Helper()
	c, at, e := syntax.Parse(script)
	if e != api.OK {
		t.Fatalf("%q: error %d at %d", script, e, at)
	}
	return c
}

// outcome is what a run comes to; the tree then by its text.
type outcome struct {
	code           int
	out, err, tree string
	e              api.Errno
}

func (o outcome) String() string {
	return fmt.Sprintf("code %d, Out %.400q, Err %.400q, tree %.400q, error %d", o.code, o.out, o.err, o.tree, o.e)
}

// textOf is a node's text.
func textOf(n api.Node) string {
	text, e := spell.Show(n)
	if e != api.OK {
		return "no node"
	}
	return text
}

// runs is what a run of a command comes to.
func runs(c api.Cmd, root api.Node, fuel int, args ...string) outcome {
	r, e := shell.Run(c, root, api.Env{Args: args}, fuel)
	if e != api.OK {
		o := outcome{code: r.Code, out: r.Out, err: r.Err, e: e}
		if !ftree.Same(r.Tree, api.Node{}) {
			o.tree = fmt.Sprint(r.Tree)
		}
		return o
	}
	return outcome{r.Code, r.Out, r.Err, textOf(r.Tree), e}
}

// refusedBy is the outcome of a run that is refused, or did not end.
func refusedBy(e api.Errno) outcome { return outcome{e: e} }

// row is a script, and what its run comes to: in Out and Err a comma stands for a line's end, a * for the value of $1.
type row struct {
	script   string
	code     int
	out, err string
}

// wide is the first argument of the rows' scripts: as large as a value may be.
var wide = strings.Repeat("w", api.MaxValue)

// arguments are those of the rows' scripts.
func arguments() []string { return list(wide, "two", " 3  three ") }

// written is what a row's text stands for.
func (r row) written(text string) string {
	return strings.NewReplacer(",", "\n", "*", wide).Replace(text)
}

// checkRows checks what scripts come to over a tree, with the arguments, and that the tree then is as it is said.
func checkRows(t *testing.T, root, then api.Node, rows ...row) {
	t.Helper()
	for _, r := range rows {
		want := outcome{r.code, r.written(r.out), r.written(r.err), textOf(then), api.OK}
		if got := runs(parsed(t, r.script), root, enough, arguments()...); got != want {
			t.Errorf("%q: %v;\nwant %v", r.script, got, want)
		}
	}
}

// checkSame checks rows that leave the tree of nothing as it is.
func checkSame(t *testing.T, rows ...row) {
	t.Helper()
	checkRows(t, nodeOf(t), nodeOf(t), rows...)
}

// The chapter's examples.
func TestExamples(t *testing.T) {
	nothing := nodeOf(t)
	checkRows(t, nothing, nodeOf(t, "a/"),
		row{"mkdir a; mkdir a", 1, "", "mkdir: a: there already,"},
		row{"set -e; mkdir a; mkdir a; mkdir b", 1, "", "mkdir: a: there already,"})
	checkRows(t, nothing, nodeOf(t, "q/"), row{"x=q; mkdir $x && echo $?", 0, "0,", ""})
	checkSame(t,
		row{"exit 7; echo", 7, "", ""},
		row{"nix", 127, "", "nix: not found,"},
		row{"for f in a b; do echo $f; done", 0, "a,b,", ""})
	if got := runs(parsed(t, "while true; do echo; done"), nothing, 9); got != refusedBy(api.ErrFuel) {
		t.Errorf("the loop: %v", got)
	}
}

// P15.2: None, of any text.
func TestNone(t *testing.T) {
	root := nodeOf(t, "a=x", "d/e>a")
	for _, script := range list("", " ", "\n", "\n\n\t\n", "# a", "# a\n # b\n", "\\\n") {
		want := outcome{tree: textOf(root)}
		for _, fuel := range []int{0, 1, enough} {
			if got := runs(parsed(t, script), root, fuel, "a", "b"); got != want {
				t.Errorf("%q, fuel %d: %v; want %v", script, fuel, got, want)
			}
		}
	}
	if got := runs(api.Cmd{}, nodeOf(t), 0); got != (outcome{tree: "d0:"}) {
		t.Errorf("the zero command: %v", got)
	}
}

// P15.2: an assignment's status is 0; its text is made of what was ahead of it, and is not split.
func TestAssignments(t *testing.T) {
	checkSame(t,
		row{"x=a", 0, "", ""}, row{"false; x=a", 0, "", ""}, row{"x=a; echo $? $x", 0, "0 a,", ""}, row{"false; x=a; echo $? $x", 0, "0 a,", ""}, row{"nix; x=; echo $? $x", 0, "0,", "nix: not found,"},
		row{"x=; echo \"<$x>\"", 0, "<>,", ""}, row{"x=a; x=; echo \"<$x>\"", 0, "<>,", ""}, row{"x=a; x=b$x; x=$x$x; echo $x", 0, "baba,", ""}, row{"x=a; y=$x; x=b; echo $x $y", 0, "b a,", ""},
		row{"x='a  b '; echo $x; echo \"$x\"", 0, "a b,a  b ,", ""}, row{"y=' a  b'; x=$y; echo \"$x\"", 0, " a  b,", ""}, row{"x=\"a\nb\"; echo \"$x\"", 0, "a,b,", ""}, row{"x='$y'; y=a; echo $x", 0, "$y,", ""},
		row{"x=$2; y=$3; echo $x $y; echo \"$y\"", 0, "two 3 three, 3  three ,", ""}, row{"x=$#$4; echo $x", 0, "3,", ""}, row{"x=$1; echo $x", 0, "*,", ""}, row{"x=a=b; echo $x", 0, "a=b,", ""},
		row{"false; x=$?; echo $x $?", 0, "1 0,", ""}, row{"nix; x=$?$?; echo $x", 0, "127127,", "nix: not found,"}, row{"_=a; _1=b; echo $_ $_1", 0, "a b,", ""},
		row{"x=exit; x=nix", 0, "", ""},
	)
}

// P15.2: an assignment that expand.Set refuses: a line, status 1, and the value stays.
func TestRefusedAssignments(t *testing.T) {
	checkSame(t,
		row{"x=a$1", 1, "", "x: too large,"}, row{"x=$1$2", 1, "", "x: too large,"}, row{"x=\"$1\"' '", 1, "", "x: too large,"}, row{"x=$1; echo $?", 0, "0,", ""},
		row{"x=$1$1; echo $? \"<$x>\"", 0, "1 <>,", "x: too large,"}, row{"x=q; x=b$1; echo $? $x", 0, "1 q,", "x: too large,"}, row{"x=$1; x=a$x; echo $?; echo $x", 0, "1,*,", "x: too large,"},
		row{"x=a$1; x=b", 0, "", "x: too large,"}, row{"x=a$1; y=a$1; z=$2; echo $z", 0, "two,", "x: too large,y: too large,"}, row{"long_name_1=$1$1", 1, "", "long_name_1: too large,"},
		row{"x=a$1 || echo $?", 0, "1,", "x: too large,"}, row{"x=a$1 && echo", 1, "", "x: too large,"}, row{"! x=a$1", 0, "", "x: too large,"}, row{"if x=a$1; then echo a; else echo b; fi", 0, "b,", "x: too large,"}, row{"x=a$1; exit", 1, "", "x: too large,"},
	)
	for _, name := range list("x", "_", "Z9", strings.Repeat("n", api.MaxName)) {
		got := runs(parsed(t, name+"=$1$1$1; echo $?"), nodeOf(t), enough, arguments()...)
		if want := (outcome{0, "1\n", name + ": too large\n", "d0:", api.OK}); got != want {
			t.Errorf("%s: %v; want %v", name, got, want)
		}
	}
}

// P15.2: a simple command of no fields has the status 0.
func TestNoFields(t *testing.T) {
	checkSame(t,
		row{"$u", 0, "", ""}, row{"false; $u", 0, "", ""}, row{"false; $u; echo $?", 0, "0,", ""}, row{"nix; $u $u ${u}$4; echo $?", 0, "0,", "nix: not found,"}, row{"x=' '; false; $x$u; echo $?", 0, "0,", ""}, row{"x=\"\t\n\"; false; $x $x; echo $?", 0, "0,", ""},
		row{"$u && echo a", 0, "a,", ""}, row{"$u || echo a", 0, "", ""}, row{"! $u", 1, "", ""}, row{"false; if $u; then echo $?; fi", 0, "0,", ""},
		row{"\"\"", 127, "", ": not found,"}, row{"''; echo $?", 0, "127,", ": not found,"}, row{"\"$u\"", 127, "", ": not found,"}, row{"$u\"\" a", 127, "", ": not found,"}, row{"x=' '; \"$x\"", 127, "", " : not found,"},
	)
}

// P15.2: a simple command's fields, one behind the other: the first one says what is called.
func TestFields(t *testing.T) {
	checkSame(t,
		row{"echo", 0, ",", ""}, row{"echo a", 0, "a,", ""}, row{"echo a b  c", 0, "a b c,", ""}, row{"echo \"a b\" '' c", 0, "a b  c,", ""}, row{"echo $2 $3 $4", 0, "two 3 three,", ""}, row{"echo \"$3\"$3", 0, " 3  three  3 three,", ""}, row{"echo $# $? ${1}", 0, "3 0 *,", ""}, row{"echo $9$8$7", 0, ",", ""},
		row{"x=echo; $x a", 0, "a,", ""}, row{"x='echo a'; $x b", 0, "a b,", ""}, row{"x=' echo  a '; $x b", 0, "a b,", ""}, row{"x='echo a'; \"$x\" b", 127, "", "echo a: not found,"}, row{"x=ec; ${x}ho a", 0, "a,", ""}, row{"x=ec; y='ho a'; $x$y b", 0, "a b,", ""}, row{"$u echo a", 0, "a,", ""}, row{"$u $u echo $u a $u", 0, "a,", ""},
		row{"x=nix; $x a b", 127, "", "nix: not found,"}, row{"x=nix; $x a; echo $?", 0, "127,", "nix: not found,"}, row{"$2", 127, "", "two: not found,"}, row{"$3", 127, "", "3: not found,"}, row{"x=x=a; $x; echo $?$x", 0, "127x=a,", "x=a: not found,"},
		row{"x=exit; $x 3; echo", 3, "", ""}, row{"x='exit 4'; $x; echo", 4, "", ""}, row{"x='exit 4'; $x 5; echo $?", 0, "2,", "exit: usage,"}, row{"ex\"it\" 5; echo", 5, "", ""}, row{"\\exit 6; echo", 6, "", ""}, row{"false; x=exit; false; $u $x $u", 1, "", ""}, row{"x=' exit'; \"$x\"", 127, "", " exit: not found,"},
		row{"x='set -e'; $x; false; echo", 1, "", ""}, row{"'set' \"-\"e; false; echo", 1, "", ""}, row{"x=-e; set $x $u; false; echo", 1, "", ""}, row{"x=if; $x a", 127, "", "if: not found,"}, row{"echo if then fi", 0, "if then fi,", ""}, row{"echo ! { }", 0, "! { },", ""},
		row{"x='! false'; $x", 127, "", "!: not found,"}, row{"x='a; b'; echo $x", 0, "a; b,", ""},
	)
	checkRows(t, nodeOf(t, "f=x"), nodeOf(t, "f=x", "a/", "b/"), row{"x=' a '; mkdir $x b f; echo $?", 0, "1,", "mkdir: f: there already,"})
	checkRows(t, nodeOf(t, "f=x"), nodeOf(t, "f=x", "a b/"), row{"x='a b'; mkdir \"$x\"; echo $?", 0, "0,", ""})
}

// P15.2: what a utility writes is behind Out, what it complains of behind Err, its code is the status.
func TestUtilitiesInRuns(t *testing.T) {
	checkRows(t, nodeOf(t, "f=x", "d/e="), nodeOf(t, "d/f=x", "l>d/f", "q/r/"),
		row{"mkdir d f; echo $?; mkdir -p q/r && echo $?; rm d; echo $?; rm d/e; echo $?; mv f d; echo $?; ln -s d/f l; echo $?; test -f l && '[' -d q ]; echo $?; rmdir q; ls; echo $?; touch a/b; test a b",
			2, "1,0,1,0,0,0,0,127,", "mkdir: d: there already,mkdir: f: there already,rm: d: wrong kind,rmdir: q: not empty,ls: not found,touch: a/b: not there,test: usage,"})
	checkRows(t, nodeOf(t, "f=x"), nodeOf(t, "f=x", "g=x"), row{"cp f g; cp f g; cp g h/; cp", 2, "", "cp: h/: not there,cp: usage,"})
}

// P15.2: the status behind Not is turned about.
func TestNot(t *testing.T) {
	checkSame(t,
		row{"! true", 1, "", ""}, row{"! false", 0, "", ""}, row{"! nix", 0, "", "nix: not found,"}, row{"! test a b", 0, "", "test: usage,"}, row{"! true; echo $?", 0, "1,", ""}, row{"! nix; echo $?", 0, "0,", "nix: not found,"}, row{"! ! true", 0, "", ""}, row{"! ! false", 1, "", ""}, row{"! ! nix", 1, "", "nix: not found,"}, row{"! ! ! false", 0, "", ""},
		row{"! echo a", 1, "a,", ""}, row{"! { echo a; false; }", 0, "a,", ""}, row{"! { false; echo a; }", 1, "a,", ""}, row{"! if true; then nix; fi", 0, "", "nix: not found,"}, row{"! for f in; do false; done", 1, "", ""}, row{"! exit 3; echo", 3, "", ""}, row{"false; ! echo $?; echo $?", 0, "1,1,", ""}, row{"! x=a; echo $x$?", 0, "a1,", ""},
	)
}

// P15.2: And and Or, with each status at each Kid.
func TestAndOr(t *testing.T) {
	checkSame(t,
		row{"true && true", 0, "", ""}, row{"true && false", 1, "", ""}, row{"true && nix", 127, "", "nix: not found,"}, row{"false && true", 1, "", ""}, row{"false && nix", 1, "", ""}, row{"nix && false", 127, "", "nix: not found,"}, row{"echo a && echo b", 0, "a,b,", ""}, row{"false && echo; echo $?", 0, "1,", ""}, row{"nix && echo a; echo $?", 0, "127,", "nix: not found,"}, row{"nix; : && echo $?", 0, "0,", "nix: not found,"},
		row{"true || true", 0, "", ""}, row{"true || false", 0, "", ""}, row{"true || nix", 0, "", ""}, row{"false || true", 0, "", ""}, row{"false || false", 1, "", ""}, row{"false || nix", 127, "", "nix: not found,"}, row{"nix || false", 1, "", "nix: not found,"}, row{"nix || echo $?", 0, "127,", "nix: not found,"}, row{"echo a || echo b", 0, "a,", ""}, row{"true || nix; echo $?", 0, "0,", ""}, row{"nix || test a b", 2, "", "nix: not found,test: usage,"},
		row{"true && false || echo $?", 0, "1,", ""}, row{"false && echo a || echo b", 0, "b,", ""}, row{"false || true && echo $?", 0, "0,", ""}, row{"true || echo a && echo b", 0, "b,", ""}, row{"false && echo a && echo b", 1, "", ""}, row{"true || echo a || echo b", 0, "", ""}, row{"true && { false || nix; } && echo", 127, "", "nix: not found,"}, row{"false || { echo a && false; } || echo $?", 0, "a,1,", ""},
		row{"x=a && echo $x", 0, "a,", ""}, row{"x=a || x=b; echo $x", 0, "a,", ""}, row{"exit 3 && echo", 3, "", ""}, row{"exit 3 || echo", 3, "", ""}, row{"true && exit 4 || echo", 4, "", ""}, row{"false || exit", 1, "", ""},
	)
}

// P15.2: Seq's Kids, one behind the other, whatever their statuses; the last one's is the status.
func TestSeq(t *testing.T) {
	checkSame(t,
		row{"true; true", 0, "", ""}, row{"true; false", 1, "", ""}, row{"false; true", 0, "", ""}, row{"nix; false", 1, "", "nix: not found,"}, row{"false; nix", 127, "", "nix: not found,"}, row{"echo a; echo b\necho c", 0, "a,b,c,", ""}, row{"{ echo a; false; }; echo $?", 0, "a,1,", ""}, row{"{ false; { echo $?; nix; }; echo $?; }; echo $?", 0, "1,127,0,", "nix: not found,"},
		row{"false; echo $? $?; echo $?", 0, "1 1,0,", ""}, row{"echo $?", 0, "0,", ""}, row{"echo a; exit 9; echo b", 9, "a,", ""}, row{"{ echo a; exit 9; }; echo b", 9, "a,", ""},
	)
}

// P15.2: If with and without its third Kid, with each status at each Kid.
func TestIf(t *testing.T) {
	checkSame(t,
		row{"if true; then echo a; fi", 0, "a,", ""}, row{"if true; then false; fi", 1, "", ""}, row{"if true; then nix; fi; echo $?", 0, "127,", "nix: not found,"}, row{"if false; then echo a; fi", 0, "", ""}, row{"if false; then :; fi; echo $?", 0, "0,", ""}, row{"if nix; then echo a; fi; echo $?", 0, "0,", "nix: not found,"}, row{"false; if false; then nix; fi", 0, "", ""},
		row{"if true; then echo a; else echo b; fi", 0, "a,", ""}, row{"if false; then echo a; else echo b; fi", 0, "b,", ""}, row{"if nix; then echo a; else echo $?; fi", 0, "127,", "nix: not found,"}, row{"if true; then nix; else false; fi", 127, "", "nix: not found,"}, row{"if false; then nix; else false; fi", 1, "", ""}, row{"if false; then false; else true; fi", 0, "", ""}, row{"if true; then true; else false; fi", 0, "", ""}, row{"if false; then nix; else nix; fi; echo $?", 0, "127,", "nix: not found,"},
		row{"false; if echo $?; then echo $?; fi", 0, "1,0,", ""}, row{"if false; true; then echo a; fi", 0, "a,", ""}, row{"if true; false; then echo a; else echo b; fi", 0, "b,", ""}, row{"if ! false; then echo a; else echo b; fi", 0, "a,", ""},
		row{"if false; then echo a; elif true; then echo b; else echo c; fi", 0, "b,", ""}, row{"if false; then echo a; elif nix; then echo b; else echo $?; fi", 0, "127,", "nix: not found,"}, row{"if false; then echo a; elif false; then echo b; fi; echo $?", 0, "0,", ""}, row{"if true; then false; elif true; then echo b; fi", 1, "", ""}, row{"if false; then :; elif true; then nix; fi", 127, "", "nix: not found,"},
		row{"if exit 3; then echo; fi; echo", 3, "", ""}, row{"if true; then exit 4; fi; echo", 4, "", ""}, row{"if nix; then :; else exit; fi; echo", 127, "", "nix: not found,"}, row{"if x=a; then echo $x; fi", 0, "a,", ""},
	)
}
