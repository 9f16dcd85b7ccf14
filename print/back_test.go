package print_test

import (
	"slices"
	"strings"
	"testing"
	"unsafe"

	"touchstone/api"
	"touchstone/print"
	"touchstone/syntax"
)

// checkBack checks that a command's text is read as that command, and each of its lines as the one of which it is.
func checkBack(t *testing.T, c api.Cmd) {
	t.Helper()
	text, e := print.Show(c)
	lines, linesE := print.Lines(c)
	if e != api.OK || linesE != api.OK || linesOf(lines) != text {
		t.Fatalf("Show = %q, %d; Lines = %q, %d", text, e, lines, linesE)
	}
	if got, at, e := syntax.Parse(text); e != api.OK || !syntax.Same(got, c) {
		t.Fatalf("Parse(%q) is another command, or wrong at %d: %d", text, at, e)
	}
	var want []api.Cmd
	switch c.Kind {
	case api.None:
	case api.Seq:
		want = c.Kids
	default:
		want = []api.Cmd{c}
	}
	if len(lines) != len(want) {
		t.Fatalf("Lines = %q; want %d of them", lines, len(want))
	}
	for i, line := range lines {
		if got, at, e := syntax.Parse(line); e != api.OK || !syntax.Same(got, want[i]) {
			t.Fatalf("Parse(%q), a line of %q, is another command, or wrong at %d: %d", line, text, at, e)
		}
	}
}

// linesOf is a script of these lines.
func linesOf(lines []string) string {
	text := ""
	for _, line := range lines {
		text += line + "\n"
	}
	return text
}

// allOver are all commands that have some of these for their Kids.
func allOver(kids []api.Cmd) []api.Cmd {
	var all []api.Cmd
	for _, a := range kids {
		all = append(all, of(api.Not, a), forOver("x", nil, a))
		for _, b := range kids {
			for _, kind := range []uint8{api.And, api.Or, api.Seq, api.If, api.While, api.Until} {
				all = append(all, of(kind, a, b))
			}
			for _, c := range kids {
				all = append(all, of(api.If, a, b, c), of(api.Seq, a, b, c))
			}
		}
	}
	return all
}

// P4.2, P4.3: all commands that are three deep, and each of them in each place of another one.
func TestShapesBack(t *testing.T) {
	shapes := []api.Cmd{plain("a")}
	for range 2 {
		shapes = append(allOver(shapes), plain("a"))
	}
	if len(shapes) < 2000 {
		t.Fatal("so many shapes:", len(shapes))
	}
	checkBack(t, api.Cmd{})
	for _, c := range shapes {
		checkBack(t, c)
		for _, at := range places() {
			checkBack(t, at.within(c))
		}
	}
}

// dice throws the same numbers in each run.
type dice uint64

func (d *dice) roll(n int) int {
	*d = *d*6364136223846793005 + 1442695040888963407
	return int(uint64(*d)>>33) % n
}

func pick[T any](d *dice, from ...T) T { return from[d.roll(len(from))] }

// part is some part that may stand in a word.
func (d *dice) part() api.Part {
	switch d.roll(5) {
	case 0:
		return bare(pick(d, "a", "-x", "a#", "=", "in", "!", "{", "}", "\xff", "x=1", "done", "0~"))
	case 1:
		return quoted(pick(d, "", " ", "\n", "'", "\"", "$", "`", "\\", "\\\n", "a;b", "#", "*?[~", "${x}", "if", "\xfe\t|&"))
	case 2:
		return param(pick(d, "x", "_y9", "1", "9", "#", "?", strings.Repeat("n", api.MaxName)))
	}
	return quotedParam(pick(d, "x", "Y", "1", "#", "?"))
}

// word is some word; it may be, or not.
func (d *dice) word() api.Word {
	var w api.Word
	for range 1 + d.roll(4) {
		w.Parts = append(w.Parts, d.part())
	}
	return w
}

// command is some command that may be, at most so deep.
func (d *dice) command(depth int) api.Cmd {
	c := d.invent(depth)
	for !syntax.May(c) {
		c = d.invent(depth)
	}
	return c
}

func (d *dice) invent(depth int) api.Cmd {
	var words []api.Word
	for range d.roll(4) {
		words = append(words, d.word())
	}
	if depth == 1 && d.roll(3) == 0 {
		value := pick(d, api.Word{}, wordOf(bare("~")), wordOf(bare("#"), quotedParam("x")), d.word())
		return api.Cmd{Kind: api.Simple, Name: pick(d, "x", "if", "_0"), Words: []api.Word{value}}
	}
	if depth == 1 {
		return api.Cmd{Kind: api.Simple, Words: append(words, d.word())}
	}
	kid := func() api.Cmd { return d.command(1 + d.roll(depth-1)) }
	switch kind := pick(d, api.Not, api.And, api.Or, api.Seq, api.If, api.While, api.Until, api.For); kind {
	case api.Not:
		return of(kind, kid())
	case api.For:
		return forOver(pick(d, "x", "in", "Name_1"), words, kid())
	case api.Seq, api.If:
		c := of(kind, kid(), kid())
		if d.roll(2) == 0 {
			c.Kids = append(c.Kids, kid())
		}
		return c
	default:
		return of(kind, kid(), kid())
	}
}

// P4.2, P4.3: commands of all sorts of words.
func TestCommandsBack(t *testing.T) {
	d := dice(1)
	for range 20000 {
		checkBack(t, d.command(1+d.roll(5)))
	}
}

// P4.2: what is read out of a script has a text that is read as that.
func TestScriptsBack(t *testing.T) {
	for _, script := range []string{
		"", "# none", "\n\n", "a", "a;", "a\nb;c", "{ { a; }; }", "{ a; b; }; c", "{ a && b; } && c", "a && { b && c; }", "! ! a", "! { a; }", "! a && b", "! { a && b; }",
		"if a\nthen b # remark\nelif c; then d; elif e; then f; else g\nfi", "while a; do { b; c; }; done", "until { a; b; }; c; do d; done", "for x\n\nin a 'b c' $d\ndo e; done", "for x in; do a; done",
		"x=", "x=~", "x='~'", "x=\\~a", "x=$y\"$z\"'a'", "'if' a", "\\if", "i''f", "\"\"#", "''~", "a if ! { }", "a'b\nc'd", "a \\\n b\\\nc", "a\"\\\nb\"", "a$ \"$\" \"\\a\"", "${x}y$1z", "\"${x}\"${y}",
		strings.Repeat("! ", api.MaxNest-1) + "a", "a" + strings.Repeat(" a", api.MaxArgs-1), strings.Repeat("{ ", 100) + "a" + strings.Repeat("; }", 100),
	} {
		c, at, e := syntax.Parse(script)
		if e != api.OK {
			t.Fatalf("Parse(%q): %d at %d", script, e, at)
		}
		checkBack(t, c)
	}
}

// P4.2: scripts of all sorts of tokens, where they can be read.
func TestTokensBack(t *testing.T) {
	d := dice(2)
	read := 0
	for range 200000 {
		script := ""
		for range 1 + d.roll(9) {
			script += pick(&d, "a", "b c", "'d'", "x=1", ";", ";", "\n", "&&", "||", "!", "{ a", "; }", "{", "}", "if a; then", "; else", "; fi", "while b; do", "; done", "for x in", "; do") + " "
		}
		if c, _, e := syntax.Parse(script); e == api.OK {
			read++
			checkBack(t, c)
		}
	}
	if read < 10000 {
		t.Error("so many were read:", read)
	}
}

// P4.2: what is read may be too long for a text; a script is read up to the greatest length that a text has.
func TestLengthsBack(t *testing.T) {
	c, _, e := syntax.Parse(strings.Repeat("\\$", api.MaxScript/2))
	if e != api.OK {
		t.Fatal(e)
	}
	checkRefused(t, c, api.ErrTooLarge)
	for _, at := range places() {
		checkBack(t, longest(0, at.within))
	}
	checkBack(t, of(api.Seq, slices.Repeat([]api.Cmd{plain("a")}, api.MaxScript/2)...))
}

// R1: whatever is handed in, a call answers.
func TestOddInputs(t *testing.T) {
	deep, wide := plain("a"), plain("a")
	for range 60000 {
		deep = of(api.Not, deep)
	}
	for range 14 {
		wide = of(api.Seq, wide, wide)
	}
	checkRefused(t, deep, api.ErrForm)
	checkRefused(t, wide, api.ErrTooLarge)
	checkRefused(t, of(api.Not, wide), api.ErrTooLarge)
	for kind := range 256 {
		if kind > 0 {
			checkRefused(t, of(uint8(kind)), api.ErrForm)
		}
		for n := range 4 {
			checkRefused(t, of(uint8(kind), make([]api.Cmd, n+1)...), api.ErrForm)
			checkRefused(t, api.Cmd{Kind: uint8(kind), Name: "\x00", Words: make([]api.Word, n)}, api.ErrForm)
		}
	}
}

// R3: what is handed in is not changed, nor what stands behind its lists' ends, nor read there.
func TestArgumentsAreNotChanged(t *testing.T) {
	room := func() []api.Part { return []api.Part{bare("1"), quoted("2"), bare("3")} }
	parts := [][]api.Part{room(), room(), room()}
	kids := []api.Cmd{
		{Kind: api.Simple, Name: "x", Words: []api.Word{{Parts: parts[0][:1]}}},
		{Kind: api.Simple, Name: "y", Words: []api.Word{{Parts: parts[1][1:2]}}},
		{Kind: api.Simple, Words: []api.Word{{Parts: parts[2][:2]}}},
		plain("fi"),
	}
	words := []api.Word{wordOf(bare("v")), wordOf(bare("*"))}
	c := of(api.Seq, of(api.Seq, kids[:3]...), forOver("z", words[:1], kids[0]))
	checkShown(t, []shown{{c, []string{`{ x=1; y="2"; 1"2"; }`, "for z in v; do x=1; done"}}})
	for _, p := range parts {
		if !slices.Equal(p, room()) {
			t.Error("an argument is changed:", p)
		}
	}
	if !syntax.Same(kids[3], plain("fi")) || words[1].Parts[0] != bare("*") {
		t.Error("what stands behind an argument is changed:", kids[3], words[1])
	}
}

// R2, R3: an answer is new memory, which no later one shows, and hangs on nothing that is handed in.
func TestNothingIsShared(t *testing.T) {
	buffer := []byte("nameword")
	name, text := unsafe.String(&buffer[0], 4), unsafe.String(&buffer[4], 4)
	c := of(api.Seq, assign(name, bare(text)), forOver(name, wordsOf(text, 2), plain(text)), plain(text))
	want := []string{"name=word", "for name in word word; do word; done", "word"}
	checkShown(t, []shown{{c, want}})
	lines, _ := print.Lines(c)
	script, _ := print.Show(c)
	all := lines[:cap(lines)]
	kept := slices.Clone(lines)
	for i := range all {
		all[i] = "spoilt"
	}
	checkShown(t, []shown{{c, want}})
	for i := range buffer {
		buffer[i] = 'q'
	}
	if !slices.Equal(kept, want) || script != linesOf(want) {
		t.Errorf("answers change with what was handed in: %q, %q", kept, script)
	}
}
