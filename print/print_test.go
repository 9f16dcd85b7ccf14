package print_test

import (
	"slices"
	"strings"
	"testing"

	"touchstone/api"
	"touchstone/print"
)

func bare(text string) api.Part        { return api.Part{Text: text} }
func quoted(text string) api.Part      { return api.Part{Text: text, Quoted: true} }
func param(name string) api.Part       { return api.Part{Var: true, Text: name} }
func quotedParam(name string) api.Part { return api.Part{Var: true, Text: name, Quoted: true} }

func wordOf(parts ...api.Part) api.Word { return api.Word{Parts: parts} }

// simple is a command of words that have one part each.
func simple(parts ...api.Part) api.Cmd {
	c := api.Cmd{Kind: api.Simple}
	for _, part := range parts {
		c.Words = append(c.Words, wordOf(part))
	}
	return c
}

func plain(text string) api.Cmd { return simple(bare(text)) }

func assign(name string, parts ...api.Part) api.Cmd {
	return api.Cmd{Kind: api.Simple, Name: name, Words: []api.Word{wordOf(parts...)}}
}

func of(kind uint8, kids ...api.Cmd) api.Cmd { return api.Cmd{Kind: kind, Kids: kids} }

func forOver(name string, words []api.Word, body api.Cmd) api.Cmd {
	return api.Cmd{Kind: api.For, Name: name, Words: words, Kids: []api.Cmd{body}}
}

// shown is a command, and the lines that it must have.
type shown struct {
	c    api.Cmd
	want []string
}

func checkShown(t *testing.T, rows []shown) {
	t.Helper()
	for _, x := range rows {
		lines, e := print.Lines(x.c)
		if e != api.OK || !slices.Equal(lines, x.want) {
			t.Errorf("Lines = %q, %d; want %q", lines, e, x.want)
		}
		want := ""
		for _, line := range x.want {
			want += line + "\n"
		}
		if text, e := print.Show(x.c); e != api.OK || text != want {
			t.Errorf("Show = %q, %d; want %q", text, e, want)
		}
	}
}

// checkRefused checks that a command has no text.
func checkRefused(t *testing.T, c api.Cmd, want api.Errno) {
	t.Helper()
	if lines, e := print.Lines(c); len(lines) != 0 || e != want {
		t.Errorf("Lines = %.200q, %d; want %d", lines, e, want)
	}
	if text, e := print.Show(c); text != "" || e != want {
		t.Errorf("Show = %.200q, %d; want %d", text, e, want)
	}
}

// P4.1: the chapter's examples.
func TestExamples(t *testing.T) {
	a, b, c := plain("a"), plain("b"), plain("c")
	checkShown(t, []shown{
		{of(api.Seq, simple(bare("a"), bare("b")), of(api.Not, c)), []string{"a b", "! c"}},
		{of(api.And, a, of(api.Or, b, c)), []string{"a && { b || c; }"}},
		{of(api.If, a, of(api.Seq, b, c)), []string{"if a; then b; c; fi"}},
		{assign("x"), []string{"x="}},
	})
}

// P4.1: each Kind's text.
func TestKinds(t *testing.T) {
	a, b, c := plain("a"), plain("b"), plain("c")
	words := simple(bare("v"), quoted("w"), bare("do")).Words
	checkShown(t, []shown{
		{api.Cmd{}, nil},
		{api.Cmd{At: 7, Words: []api.Word{}, Kids: []api.Cmd{}}, nil},
		{a, []string{"a"}},
		{simple(bare("a"), bare("-p"), bare("b/c")), []string{"a -p b/c"}},
		{api.Cmd{Kind: api.Simple, At: 9, Words: []api.Word{{At: -4, Parts: []api.Part{bare("a")}}}}, []string{"a"}},
		{of(api.Not, a), []string{"! a"}},
		{of(api.And, a, b), []string{"a && b"}},
		{of(api.Or, a, b), []string{"a || b"}},
		{of(api.Seq, a, b, c), []string{"a", "b", "c"}},
		{of(api.Not, of(api.Seq, a, b, c)), []string{"! { a; b; c; }"}},
		{of(api.If, a, b), []string{"if a; then b; fi"}},
		{of(api.If, a, b, c), []string{"if a; then b; else c; fi"}},
		{of(api.If, a, b, of(api.If, b, c, a)), []string{"if a; then b; else if b; then c; else a; fi; fi"}},
		{of(api.While, a, b), []string{"while a; do b; done"}},
		{of(api.Until, a, b), []string{"until a; do b; done"}},
		{forOver("x", nil, a), []string{"for x in; do a; done"}},
		{forOver("x", []api.Word{}, a), []string{"for x in; do a; done"}},
		{forOver("x", words[:1], a), []string{"for x in v; do a; done"}},
		{forOver("in", words, a), []string{"for in in v \"w\" do; do a; done"}},
	})
}

// P4.1: words, each word.Show's.
func TestWords(t *testing.T) {
	checkShown(t, []shown{
		{simple(quoted("if")), []string{`"if"`}},
		{simple(quoted(""), quoted("")), []string{`"" ""`}},
		{simple(param("x"), quotedParam("1"), param("#")), []string{`${x} "${1}" ${#}`}},
		{simple(bare("a"), quoted("b c'd"), quoted(`$"\`+"`")), []string{`a "b c'd" "\$\"\\\` + "`" + `"`}},
		{simple(bare("a"), quoted("b\nc")), []string{"a \"b\nc\""}},
		{simple(bare("a"), bare("if"), bare("!"), bare("{"), bare("}"), bare("x=1"), bare("a#b"), bare("a~")), []string{"a if ! { } x=1 a#b a~"}},
		{api.Cmd{Kind: api.Simple, Words: []api.Word{wordOf(bare("a"), quoted("b"), quotedParam("c"), param("d"), bare("e"))}}, []string{`a"b${c}"${d}e`}},
		{api.Cmd{Kind: api.Simple, Words: []api.Word{wordOf(quoted(""), bare("#")), wordOf(quoted(""), bare("~"))}}, []string{`""# ""~`}},
	})
}

// P4.1: an assignment is one word, whatever its value begins by.
func TestAssignments(t *testing.T) {
	checkShown(t, []shown{
		{assign("x"), []string{"x="}},
		{api.Cmd{Kind: api.Simple, Name: "x", Words: []api.Word{{Parts: []api.Part{}, At: 3}}}, []string{"x="}},
		{assign("x", bare("1")), []string{"x=1"}},
		{assign("x", bare("~")), []string{"x=~"}},
		{assign("x", bare("#a"), quoted("b")), []string{`x=#a"b"`}},
		{assign("x", bare("=y=")), []string{"x==y="}},
		{assign("x", quoted("")), []string{`x=""`}},
		{assign("x", quoted("~")), []string{`x="~"`}},
		{assign("x", param("y")), []string{"x=${y}"}},
		{assign("x", quotedParam("?"), bare("~#")), []string{`x="${?}"~#`}},
		{assign("if", bare("fi"), quoted("b c"), param("d")), []string{`if=fi"b c"${d}`}},
		{of(api.If, assign("_9"), assign("x", bare("~"))), []string{"if _9=; then x=~; fi"}},
	})
}

// place is where a command may stand within another one, and of which Kinds it stands there in { }.
type place struct {
	text    string // with X where it stands
	within  func(c api.Cmd) api.Cmd
	grouped []uint8
}

func places() []place {
	a, b := plain("a"), plain("b")
	joined := []uint8{api.Seq, api.And, api.Or}
	return []place{
		{"! X", func(c api.Cmd) api.Cmd { return of(api.Not, c) }, []uint8{api.Not, api.And, api.Or, api.Seq}},
		{"X && a", func(c api.Cmd) api.Cmd { return of(api.And, c, a) }, []uint8{api.Seq}},
		{"X || a", func(c api.Cmd) api.Cmd { return of(api.Or, c, a) }, []uint8{api.Seq}},
		{"a && X", func(c api.Cmd) api.Cmd { return of(api.And, a, c) }, joined},
		{"a || X", func(c api.Cmd) api.Cmd { return of(api.Or, a, c) }, joined},
		{"a || X && b", func(c api.Cmd) api.Cmd { return of(api.And, of(api.Or, a, c), b) }, joined},
		{"X\na", func(c api.Cmd) api.Cmd { return of(api.Seq, c, a) }, []uint8{api.Seq}},
		{"a\nX\nb", func(c api.Cmd) api.Cmd { return of(api.Seq, a, c, b) }, []uint8{api.Seq}},
		{"a\nX", func(c api.Cmd) api.Cmd { return of(api.Seq, a, c) }, []uint8{api.Seq}},
		{"! { X; a; }", func(c api.Cmd) api.Cmd { return of(api.Not, of(api.Seq, c, a)) }, []uint8{api.Seq}},
		{"if a; X; then b; fi", func(c api.Cmd) api.Cmd { return of(api.If, of(api.Seq, a, c), b) }, []uint8{api.Seq}},
		{"if X; then a; fi", func(c api.Cmd) api.Cmd { return of(api.If, c, a) }, nil},
		{"if a; then X; fi", func(c api.Cmd) api.Cmd { return of(api.If, a, c) }, nil},
		{"if X; then a; else b; fi", func(c api.Cmd) api.Cmd { return of(api.If, c, a, b) }, nil},
		{"if a; then X; else b; fi", func(c api.Cmd) api.Cmd { return of(api.If, a, c, b) }, nil},
		{"if a; then b; else X; fi", func(c api.Cmd) api.Cmd { return of(api.If, a, b, c) }, nil},
		{"while X; do a; done", func(c api.Cmd) api.Cmd { return of(api.While, c, a) }, nil},
		{"while a; do X; done", func(c api.Cmd) api.Cmd { return of(api.While, a, c) }, nil},
		{"until X; do a; done", func(c api.Cmd) api.Cmd { return of(api.Until, c, a) }, nil},
		{"until a; do X; done", func(c api.Cmd) api.Cmd { return of(api.Until, a, c) }, nil},
		{"for x in; do X; done", func(c api.Cmd) api.Cmd { return forOver("x", nil, c) }, nil},
		{"for x in a b; do X; done", func(c api.Cmd) api.Cmd { return forOver("x", simple(bare("a"), bare("b")).Words, c) }, nil},
	}
}

// P4.1: in each place, a command of each Kind: in { } where it must be, and nowhere else.
func TestGroups(t *testing.T) {
	p, q := plain("p"), plain("q")
	for _, x := range []struct {
		c    api.Cmd
		text string
	}{
		{p, "p"}, {assign("x", bare("1")), "x=1"}, {of(api.Not, p), "! p"}, {of(api.And, p, q), "p && q"}, {of(api.Or, p, q), "p || q"}, {of(api.Seq, p, q), "p; q"},
		{of(api.If, p, q), "if p; then q; fi"}, {of(api.If, p, q, p), "if p; then q; else p; fi"},
		{of(api.While, p, q), "while p; do q; done"}, {of(api.Until, p, q), "until p; do q; done"}, {forOver("f", nil, p), "for f in; do p; done"},
	} {
		for _, at := range places() {
			text := x.text
			if slices.Contains(at.grouped, x.c.Kind) {
				text = "{ " + text + "; }"
			}
			checkShown(t, []shown{{at.within(x.c), strings.Split(strings.Replace(at.text, "X", text, 1), "\n")}})
		}
	}
}

// P4.1: { } within { }, and commands that are grouped from the left without them.
func TestGroupsWithinOneAnother(t *testing.T) {
	a, b, c, d := plain("a"), plain("b"), plain("c"), plain("d")
	checkShown(t, []shown{
		{of(api.Not, of(api.Not, of(api.Not, a))), []string{"! { ! { ! a; }; }"}},
		{of(api.And, of(api.Or, of(api.And, a, b), c), d), []string{"a && b || c && d"}},
		{of(api.And, a, of(api.Or, b, of(api.And, c, d))), []string{"a && { b || { c && d; }; }"}},
		{of(api.Or, of(api.Not, a), of(api.Not, of(api.And, b, c))), []string{"! a || ! { b && c; }"}},
		{of(api.Seq, of(api.Seq, a, of(api.Seq, b, c)), d), []string{"{ a; { b; c; }; }", "d"}},
		{of(api.Seq, of(api.And, of(api.Seq, a, b), of(api.Seq, c, d)), of(api.Seq, a, b)), []string{"{ a; b; } && { c; d; }", "{ a; b; }"}},
		{of(api.While, of(api.Seq, a, of(api.Seq, b, c)), of(api.Not, of(api.Seq, c, d))), []string{"while a; { b; c; }; do ! { c; d; }; done"}},
		{of(api.If, of(api.And, a, b), of(api.Seq, c, d), of(api.Or, a, of(api.Seq, b, c))), []string{"if a && b; then c; d; else a || { b; c; }; fi"}},
	})
}

// P4.1: commands that may not be.
func TestRefused(t *testing.T) {
	a, b := plain("a"), plain("b")
	none := api.Cmd{}
	deep := a
	for range api.MaxNest {
		deep = of(api.Not, deep)
	}
	tooMany := slices.Repeat([]api.Word{wordOf(bare("a"))}, api.MaxArgs+1)
	for _, c := range []api.Cmd{
		{Name: "x"}, {Words: a.Words}, {Kids: []api.Cmd{a}}, {Kind: 10}, {Kind: 255, Kids: []api.Cmd{a, b}},
		of(api.Simple), of(api.Simple, a), {Kind: api.Simple, Words: a.Words, Kids: []api.Cmd{a}}, plain("fi"), plain("{"), plain("x=1"), plain(""), plain("a b"), plain("a*"), plain("~"), plain("#"),
		simple(bare("a"), bare("#")), simple(bare("a"), bare("")), simple(param("0")), {Kind: api.Simple, Words: []api.Word{{}}}, {Kind: api.Simple, Words: tooMany},
		{Kind: api.Simple, Words: []api.Word{wordOf(bare("a"), bare("b"))}}, {Kind: api.Simple, Words: []api.Word{wordOf(quoted("a\x00"))}},
		{Kind: api.Simple, Name: "x"}, {Kind: api.Simple, Name: "x", Words: tooMany[:2]}, assign("1", bare("a")), assign("x y", bare("a")), assign("x", bare("a*")), assign("x", bare("a"), bare("b")), assign("x", quoted("a"), quoted("")),
		of(api.Not), of(api.Not, none), of(api.Not, a, b), of(api.And), of(api.And, a), of(api.And, a, none), of(api.Or, a, b, a), of(api.Or, none, b),
		of(api.Seq), of(api.Seq, a), of(api.Seq, a, none), of(api.Seq, a, plain("done")), of(api.If, a), of(api.If, a, b, a, b), of(api.If, a, b, none), of(api.While, a), of(api.Until, a, b, a),
		{Kind: api.Seq, Name: "x", Kids: []api.Cmd{a, b}}, {Kind: api.And, Words: a.Words, Kids: []api.Cmd{a, b}},
		forOver("", nil, a), forOver("1", nil, a), forOver("x", tooMany, a), forOver("x", []api.Word{{}}, a), forOver("x", nil, none), of(api.For, a), {Kind: api.For, Name: "x"},
		deep, of(api.Seq, a, deep),
	} {
		checkRefused(t, c, api.ErrForm)
	}
}

// longest is a command whose lines have just MaxScript bytes, with their line's ends; longer is one whose have that many more.
func longest(longer int, within func(word api.Cmd) api.Cmd) api.Cmd {
	text, _ := print.Show(within(plain("a")))
	return within(plain(strings.Repeat("a", api.MaxScript+longer-len(text)+1)))
}

// P4.1: lines of MaxScript bytes, and of one more.
func TestMaxScript(t *testing.T) {
	alone := func(c api.Cmd) api.Cmd { return c }
	forms := []func(c api.Cmd) api.Cmd{alone}
	for _, at := range places() {
		forms = append(forms, at.within)
		forms = append(forms, func(c api.Cmd) api.Cmd { return of(api.Not, at.within(of(api.Not, of(api.Seq, c, plain("b"))))) })
	}
	for _, within := range forms {
		text, e := print.Show(longest(0, within))
		if e != api.OK || len(text) != api.MaxScript {
			t.Errorf("Show: %d bytes, %d", len(text), e)
		}
		lines, e := print.Lines(longest(0, within))
		if e != api.OK || strings.Join(lines, "\n")+"\n" != text {
			t.Errorf("Lines: %d lines, %d", len(lines), e)
		}
		for _, longer := range []int{1, 2, 3, 40, 5 * api.MaxScript} {
			checkRefused(t, longest(longer, within), api.ErrTooLarge)
		}
	}
	many := slices.Repeat([]api.Cmd{plain("a")}, api.MaxScript)
	checkShown(t, []shown{{of(api.Seq, many[:api.MaxScript/2]...), slices.Repeat([]string{"a"}, api.MaxScript/2)}})
	checkRefused(t, of(api.Seq, many[:api.MaxScript/2+1]...), api.ErrTooLarge)
	checkRefused(t, of(api.Not, of(api.Seq, many...)), api.ErrTooLarge)
}

// P4.1: each byte of quotes, backslashes and the assignment's name is counted, too.
func TestMaxScriptOfWords(t *testing.T) {
	const name = "name"
	fits := api.MaxScript - len(name+"=\"\"\n")
	for _, x := range []struct{ text, of string }{{"a", "a"}, {"\\$", "$"}, {"\\\\", "\\"}} {
		text := strings.Repeat(x.of, fits/len(x.text))
		if got, e := print.Show(assign(name, quoted(text))); e != api.OK || len(got) != api.MaxScript {
			t.Errorf("Show of %q and so on: %d bytes, %d", x.text, len(got), e)
		}
		checkRefused(t, assign(name, quoted(text+"b")), api.ErrTooLarge)
		checkRefused(t, assign(name+"s", quoted(text)), api.ErrTooLarge)
	}
}

// P4.1: that a command may not be is told first.
func TestErrFormFirst(t *testing.T) {
	long := strings.Repeat("a", api.MaxScript)
	many := slices.Repeat([]api.Cmd{plain("a")}, api.MaxScript)
	for _, c := range []api.Cmd{
		of(api.Seq, plain(long), plain("fi")), plain(long + "*"), simple(bare(long), bare("")), assign("x y", bare(long)), of(api.And, plain(long)),
		of(api.Seq, append(many, plain("fi"))...), of(api.Seq, append(many, api.Cmd{})...), forOver("x", wordsOf(long, api.MaxArgs+1), plain("a")),
		{Kind: 99, Kids: many}, {Words: wordsOf(long, 1)},
	} {
		checkRefused(t, c, api.ErrForm)
	}
	checkRefused(t, forOver("x", wordsOf(long, api.MaxArgs), plain("a")), api.ErrTooLarge)
}

func wordsOf(text string, n int) []api.Word {
	return slices.Repeat([]api.Word{wordOf(bare(text))}, n)
}
