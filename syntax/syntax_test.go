package syntax_test

import (
	"strconv"
	"strings"
	"testing"

	"touchstone/api"
	"touchstone/syntax"
)

// shape writes a command down, without its places.
func shape(c api.Cmd) string { return write(c, func(int) string { return "" }) }

// placed writes a command down, with its places.
func placed(c api.Cmd) string {
	return write(c, func(at int) string { return "@" + strconv.Itoa(at) })
}

// kindName is how a Kind is written down.
func kindName(kind uint8) string {
	names := []string{"none", "simple", "not", "and", "or", "seq", "if", "while", "until", "for"}
	if int(kind) < len(names) {
		return names[kind]
	}
	return "kind" + strconv.Itoa(int(kind))
}

func write(c api.Cmd, place func(at int) string) string {
	var pieces []string
	for _, w := range c.Words {
		pieces = append(pieces, wordText(w)+place(w.At))
	}
	words := "[" + strings.Join(pieces, " ") + "]"
	pieces = nil
	for _, kid := range c.Kids {
		pieces = append(pieces, write(kid, place))
	}
	kids := "(" + strings.Join(pieces, " ") + ")"
	switch {
	case c.Kind == api.Simple && len(c.Kids) == 0 && c.Name == "":
		return words + place(c.At)
	case c.Kind == api.Simple && len(c.Kids) == 0:
		return c.Name + "=" + words + place(c.At)
	case c.Kind == api.For:
		return "for " + c.Name + words + place(c.At) + kids
	}
	text := kindName(c.Kind) + place(c.At)
	if c.Name != "" || len(c.Words) > 0 {
		text += " " + c.Name + words
	}
	return text + kids
}

// wordText is a word as it may stand in a script, each of its parts for itself; also of a word that may not be.
func wordText(w api.Word) string {
	text := ""
	for _, p := range w.Parts {
		switch {
		case p.Var && p.Quoted:
			text += "\"${" + p.Text + "}\""
		case p.Var:
			text += "${" + p.Text + "}"
		case p.Quoted:
			text += "'" + strings.ReplaceAll(p.Text, "'", "'\\''") + "'"
		default:
			text += p.Text
		}
	}
	return text
}

func bare(text string) api.Part         { return api.Part{Text: text} }
func quoted(text string) api.Part       { return api.Part{Text: text, Quoted: true} }
func param(name string) api.Part        { return api.Part{Var: true, Text: name} }
func wordOf(parts ...api.Part) api.Word { return api.Word{Parts: parts} }
func plain(text string) api.Word        { return wordOf(bare(text)) }

func simple(texts ...string) api.Cmd {
	c := api.Cmd{Kind: api.Simple}
	for _, text := range texts {
		c.Words = append(c.Words, plain(text))
	}
	return c
}

func of(kind uint8, kids ...api.Cmd) api.Cmd { return api.Cmd{Kind: kind, Kids: kids} }

// mustParse is the command of a script that must be read.
func mustParse(t *testing.T, script string) api.Cmd {
	t.Helper()
	c, at, e := syntax.Parse(script)
	if e != api.OK || at != 0 {
		t.Fatalf("Parse(%.200q) = %d, %d", script, at, e)
	}
	return c
}

// row is a script, and how its command must be written down.
type row struct{ script, want string }

func checkShapes(t *testing.T, rows []row) {
	t.Helper()
	for _, r := range rows {
		c, at, e := syntax.Parse(r.script)
		if e != api.OK || at != 0 || shape(c) != r.want {
			t.Errorf("Parse(%.200q) = %s, %d, %d; want %s", r.script, shape(c), at, e, r.want)
		}
	}
}

// fault is a script that is wrong, and at which of its bytes.
type fault struct {
	script string
	at     int
	e      api.Errno
}

func checkFaults(t *testing.T, faults []fault) {
	t.Helper()
	for _, f := range faults {
		c, at, e := syntax.Parse(f.script)
		if e != f.e || at != f.at || placed(c) != placed(api.Cmd{}) {
			t.Errorf("Parse(%.200q) = %.200s, %d, %d; want %d at %d", f.script, placed(c), at, e, f.e, f.at)
		}
	}
}

// P3.1.
func TestOrdinaryScripts(t *testing.T) {
	checkShapes(t, []row{
		{"a", "[a]"},
		{"mkdir -p \"$1/b\" 'c d'", "[mkdir -p \"${1}\"'/b' 'c d']"},
		{"a; b && c", "seq([a] and([b] [c]))"},
		{"! a || b", "or(not([a]) [b])"},
		{"if a; then b; fi", "if([a] [b])"},
		{"if a; then b; else c; fi", "if([a] [b] [c])"},
		{"x=1", "x=[1]"},
		{"for f in x y; do rm $f; done", "for f[x y]([rm ${f}])"},
		{"while a; do b; done", "while([a] [b])"},
		{"until a; do b; done", "until([a] [b])"},
		{"{ a; b; }", "seq([a] [b])"},
		{"{ a; }", "[a]"},
		{"echo if", "[echo if]"},
		{"set -e\nmkdir a # a remark\necho done\n", "seq([set -e] [mkdir a] [echo done])"},
	})
}

// P3.1: what stands between the commands of a list, ahead of them and behind them.
func TestLists(t *testing.T) {
	checkShapes(t, []row{
		{"", "none()"},
		{" \t", "none()"},
		{"\n\n", "none()"},
		{"# a remark", "none()"},
		{"\\\n", "none()"},
		{"# a remark\n\n  # another one\n", "none()"},
		{"a;", "[a]"},
		{"a\n", "[a]"},
		{"a;\n\n", "[a]"},
		{"\n\na", "[a]"},
		{"a;b", "seq([a] [b])"},
		{"a\nb", "seq([a] [b])"},
		{"a;\nb", "seq([a] [b])"},
		{"a;\n\n\nb;", "seq([a] [b])"},
		{"\n a \n\n b \n\n c \n", "seq([a] [b] [c])"},
		{"a;b;c;d", "seq([a] [b] [c] [d])"},
		{"{ a; b; }; c", "seq(seq([a] [b]) [c])"},
		{"a; { b; c; }", "seq([a] seq([b] [c]))"},
		{"{ a; b; }; { c; d; }", "seq(seq([a] [b]) seq([c] [d]))"},
	})
	for _, list := range []string{"a;", "a\n", "a;\n", "\n\na;\n\n", "\na ; # a remark\n"} {
		checkShapes(t, []row{
			{list, "[a]"},
			{"{ " + list + " }", "[a]"},
			{"if " + list + " then " + list + " else " + list + " fi", "if([a] [a] [a])"},
			{"if " + list + " then " + list + " elif " + list + " then " + list + " fi", "if([a] [a] if([a] [a]))"},
			{"while " + list + " do " + list + " done", "while([a] [a])"},
			{"until " + list + " do " + list + " done", "until([a] [a])"},
			{"for f in b; do " + list + " done", "for f[b]([a])"},
		})
	}
}

// P3.1: commands with && and || between are grouped from the left; line's ends stand behind these.
func TestRows(t *testing.T) {
	checkShapes(t, []row{
		{"a && b", "and([a] [b])"},
		{"a&&b||c", "or(and([a] [b]) [c])"},
		{"a || b && c", "and(or([a] [b]) [c])"},
		{"a && b && c && d", "and(and(and([a] [b]) [c]) [d])"},
		{"a || b || c", "or(or([a] [b]) [c])"},
		{"a &&\nb", "and([a] [b])"},
		{"a &&\n\n # a remark\n b ||\n\nc", "or(and([a] [b]) [c])"},
		{"a && { b || c; }", "and([a] or([b] [c]))"},
		{"{ a && b; } && c", "and(and([a] [b]) [c])"},
		{"a && b; c || d", "seq(and([a] [b]) or([c] [d]))"},
		{"a && ! b", "and([a] not([b]))"},
		{"x=1 && y=2", "and(x=[1] y=[2])"},
		{"if a; then b; fi && while c; do d; done || for f in; do e; done", "or(and(if([a] [b]) while([c] [d])) for f[]([e]))"},
		{"if a && b || c; then d; fi", "if(or(and([a] [b]) [c]) [d])"},
	})
}

// P3.1: ! stands ahead of one command of a row.
func TestNot(t *testing.T) {
	checkShapes(t, []row{
		{"! a", "not([a])"},
		{"! ! a", "not(not([a]))"},
		{"! a && b", "and(not([a]) [b])"},
		{"! { a && b; }", "not(and([a] [b]))"},
		{"! { a; b; }", "not(seq([a] [b]))"},
		{"! x=1", "not(x=[1])"},
		{"! if a; then b; fi", "not(if([a] [b]))"},
		{"! while ! a; do ! b; done", "not(while(not([a]) not([b])))"},
		{"if ! a; then ! b; else ! c; fi", "if(not([a]) not([b]) not([c]))"},
		{"a !", "[a !]"},
		{"!a", "[!a]"},
		{"! !a", "not([!a])"},
		{"'!' a", "['!' a]"},
	})
}

// P3.1: words are reserved where a command begins, and nowhere else.
func TestReservedWords(t *testing.T) {
	reserved := strings.Fields("if then elif else fi while until do done for in case esac function select time coproc ! { }")
	for _, r := range reserved {
		checkShapes(t, []row{
			{"a " + r, "[a " + r + "]"},
			{"a b " + r + " c", "[a b " + r + " c]"},
			{"x " + r + "; y", "seq([x " + r + "] [y])"},
			{"for f in " + r + "; do a; done", "for f[" + r + "]([a])"},
			{"for f in a " + r + " b\ndo a; done", "for f[a " + r + " b]([a])"},
			{"'" + r + "' a", "['" + r + "' a]"},
			{"\\" + r, "['" + r[:1] + "'" + r[1:] + "]"},
			{r + "x a", "[" + r + "x a]"},
			{r + "'' a", "[" + r + "'' a]"},
			{r + "$x a", "[" + r + "${x} a]"},
		})
	}
	for _, r := range strings.Fields("if then elif else fi while until do done for in case esac function select time coproc") {
		checkShapes(t, []row{
			{"for " + r + " in a; do b; done", "for " + r + "[a]([b])"},
			{r + "=1", r + "=[1]"},
		})
	}
}

// P3.1: an if with elif and else.
func TestIf(t *testing.T) {
	checkShapes(t, []row{
		{"if a; then b; elif c; then d; fi", "if([a] [b] if([c] [d]))"},
		{"if a; then b; elif c; then d; else e; fi", "if([a] [b] if([c] [d] [e]))"},
		{"if a; then b; elif c; then d; elif e; then f; else g; fi", "if([a] [b] if([c] [d] if([e] [f] [g])))"},
		{"if a; then b; else if c; then d; fi; fi", "if([a] [b] if([c] [d]))"},
		{"if a; then b; else if c; then d; else e; fi fi", "if([a] [b] if([c] [d] [e]))"},
		{"if a\nthen\nb\nelif\nc\nthen\nd\nelse\ne\nfi", "if([a] [b] if([c] [d] [e]))"},
		{"if a; b; then c; d; else e; f; fi", "if(seq([a] [b]) seq([c] [d]) seq([e] [f]))"},
		{"if if a; then b; fi then c; fi", "if(if([a] [b]) [c])"},
		{"if { a; } then { b; } else { c; } fi", "if([a] [b] [c])"},
		{"if a; then x=1; fi; b", "seq(if([a] x=[1]) [b])"},
	})
}

// P3.1: loops.
func TestLoops(t *testing.T) {
	checkShapes(t, []row{
		{"while\na\nb\ndo\nc\nd\ndone", "while(seq([a] [b]) seq([c] [d]))"},
		{"until a && b; do c || d; done", "until(and([a] [b]) or([c] [d]))"},
		{"while { a; } do { b; } done", "while([a] [b])"},
		{"while while a; do b; done do until c; do d; done done", "while(while([a] [b]) until([c] [d]))"},
		{"for f in\ndo a; done", "for f[]([a])"},
		{"for f in; do a; done", "for f[]([a])"},
		{"for f\n\n\nin x\n\ndo\na\ndone", "for f[x]([a])"},
		{"for f in x;\n\n do a; done", "for f[x]([a])"},
		{"for _ in $x \"$y\" ''; do a; done", "for _[${x} \"${y}\" '']([a])"},
		{"for Z_9a in x; do a; done", "for Z_9a[x]([a])"},
		{"for f in do; do a; done", "for f[do]([a])"},
		{"for f in x=1 y=2; do a; done", "for f[x=1 y=2]([a])"},
		{"for f in x; do a; done && b", "and(for f[x]([a]) [b])"},
		{"for " + strings.Repeat("n", api.MaxName) + " in x; do a; done", "for " + strings.Repeat("n", api.MaxName) + "[x]([a])"},
	})
}

// P3.1: assignments.
func TestAssignments(t *testing.T) {
	checkShapes(t, []row{
		{"x=", "x=[]"},
		{"x=1;y=2", "seq(x=[1] y=[2])"},
		{"x=a=b", "x=[a=b]"},
		{"x=\"$1 $y\"", "x=[\"${1}\"' '\"${y}\"]"},
		{"x=$y/z", "x=[${y}/z]"},
		{"x=''", "x=['']"},
		{"x=~", "x=[~]"},
		{"x=#a", "x=[#a]"},
		{"_X9=if", "_X9=[if]"},
		{"x\\\n=1", "x=[1]"},
		{"a x=1", "[a x=1]"},
		{"'x'=1 y", "['x'=1 y]"},
		{"x'='1 y", "[x'='1 y]"},
		{"1x=1 y", "[1x=1 y]"},
		{"=1 y", "[=1 y]"},
		{"x-y=1 y", "[x-y=1 y]"},
		{"if x=1; then y=2; fi", "if(x=[1] y=[2])"},
		{strings.Repeat("n", api.MaxName) + "=1", strings.Repeat("n", api.MaxName) + "=[1]"},
		{strings.Repeat("n", api.MaxName+1) + "=1 y", "[" + strings.Repeat("n", api.MaxName+1) + "=1 y]"},
	})
}

// P3.1: where commands stand.
func TestPlaces(t *testing.T) {
	for _, r := range []row{
		{"", "none@0()"},
		{"\n \n", "none@0()"},
		{"  a  b", "[a@2 b@5]@2"},
		{"a; b && c", "seq@0([a@0]@0 and@3([b@3]@3 [c@8]@8))"},
		{" x='a b'", "x=['a b'@1]@1"},
		{" x=", "x=[@1]@1"},
		{" ! a || b", "or@1(not@1([a@3]@3) [b@8]@8)"},
		{"! ! a", "not@0(not@2([a@4]@4))"},
		{"{ a; }", "[a@2]@2"},
		{" { a; b; } && c", "and@3(seq@3([a@3]@3 [b@6]@6) [c@14]@14)"},
		{"{ { a; }; }", "[a@4]@4"},
		{"\n\na\nb", "seq@2([a@2]@2 [b@4]@4)"},
		{" if a; then b; elif c; then d; else e; fi", "if@1([a@4]@4 [b@12]@12 if@15([c@20]@20 [d@28]@28 [e@36]@36))"},
		{" while a; do b; done", "while@1([a@7]@7 [b@13]@13)"},
		{" until a; do b; done", "until@1([a@7]@7 [b@13]@13)"},
		{" for f in x y; do a; done", "for f[x@10 y@12]@1([a@18]@18)"},
		{"! { a && b; }", "not@0(and@4([a@4]@4 [b@9]@9))"},
		{"# a remark\na", "[a@11]@11"},
		{"\\\na", "[a@2]@2"},
	} {
		if got := placed(mustParse(t, r.script)); got != r.want {
			t.Errorf("Parse(%q) = %s; want %s", r.script, got, r.want)
		}
	}
}
