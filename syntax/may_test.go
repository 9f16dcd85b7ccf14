package syntax_test

import (
	"slices"
	"strings"
	"testing"
	"unsafe"

	"touchstone/api"
	"touchstone/syntax"
)

func assign(name string, parts ...api.Part) api.Cmd {
	return api.Cmd{Kind: api.Simple, Name: name, Words: []api.Word{wordOf(parts...)}}
}

func forOver(name string, words []api.Word, kids ...api.Cmd) api.Cmd {
	return api.Cmd{Kind: api.For, Name: name, Words: words, Kids: kids}
}

// nested is a command so deep.
func nested(depth int) api.Cmd {
	c := simple("a")
	for range depth - 1 {
		c = of(api.Not, c)
	}
	return c
}

// many are so many words.
func many(n int) []api.Word { return slices.Repeat([]api.Word{plain("a")}, n) }

// P3.2: commands that may be.
func TestMay(t *testing.T) {
	a, b := simple("a"), simple("b")
	for _, c := range []api.Cmd{
		{}, {At: 7}, {Words: []api.Word{}, Kids: []api.Cmd{}},
		a, {Kind: api.Simple, At: -5, Words: []api.Word{{At: -3, Parts: []api.Part{bare("a")}}}},
		simple("a", "if"), simple("a", "!", "{", "}", "x=1"), simple("ifx"), simple("1x=1"), simple("=1"), simple("!a"), simple("x-y=1"),
		{Kind: api.Simple, Words: []api.Word{wordOf(quoted("if"))}}, {Kind: api.Simple, Words: []api.Word{wordOf(quoted(""))}},
		{Kind: api.Simple, Words: []api.Word{wordOf(bare("i"), quoted("f"))}}, {Kind: api.Simple, Words: []api.Word{wordOf(bare("if"), param("x"))}},
		{Kind: api.Simple, Words: []api.Word{wordOf(param("x"), bare("=1"))}}, {Kind: api.Simple, Words: []api.Word{wordOf(bare("x"), quoted("=1"))}},
		{Kind: api.Simple, Words: many(api.MaxArgs)}, simple(strings.Repeat("n", api.MaxName+1) + "=1"), simple(strings.Repeat("long", 10000)),
		assign("x"), assign("x", bare("1")), assign("x", bare("~")), assign("x", bare("#")), assign("x", bare("=")), assign("x", quoted("")), assign("_9", param("y"), bare("z")),
		assign("if", bare("if")), assign(strings.Repeat("n", api.MaxName), quotedParam("?")),
		of(api.Not, a), of(api.Not, of(api.Not, a)), of(api.Not, of(api.And, a, b)), of(api.And, a, b), of(api.Or, a, b),
		of(api.And, a, of(api.Or, a, b)), of(api.And, of(api.Seq, a, b), of(api.Seq, a, b)), of(api.Seq, a, b), of(api.Seq, of(api.Seq, a, b), b),
		of(api.If, a, b), of(api.If, a, b, a), of(api.If, a, b, of(api.If, a, b)), of(api.While, a, b), of(api.Until, of(api.Seq, a, b), b),
		forOver("x", nil, a), forOver("if", many(api.MaxArgs), a), forOver("_", []api.Word{plain("x=1"), plain("if")}, a),
		forOver(strings.Repeat("n", api.MaxName), nil, a), nested(api.MaxNest), {Kind: api.Seq, Kids: slices.Repeat([]api.Cmd{a}, 20000)},
	} {
		if !syntax.May(c) {
			t.Errorf("May(%.200s) = false", shape(c))
		}
	}
}

func quotedParam(name string) api.Part { return api.Part{Var: true, Text: name, Quoted: true} }

// P3.2: commands that may not be.
func TestMayNot(t *testing.T) {
	a, b, none := simple("a"), simple("b"), api.Cmd{}
	for _, c := range []api.Cmd{
		{Name: "x"}, {Words: many(1)}, {Kids: []api.Cmd{a}}, {Kids: []api.Cmd{none}},
		of(api.Simple), of(api.Simple, a), {Kind: api.Simple, Words: many(1), Kids: []api.Cmd{a}}, {Kind: api.Simple, Words: many(api.MaxArgs + 1)},
		simple("if"), simple("in", "a"), simple("!"), simple("{"), simple("}"), simple("x=1"), simple("x="), simple("x=1", "a"), simple(""), simple("a b"), simple("a", ""),
		simple("a*"), simple("a", "~"), simple("#"), simple("[["), simple("a\x00"), {Kind: api.Simple, Words: []api.Word{{}}}, {Kind: api.Simple, Words: []api.Word{plain("a"), {}}},
		{Kind: api.Simple, Words: []api.Word{wordOf(bare("i"), bare("f"))}}, {Kind: api.Simple, Words: []api.Word{wordOf(param("0"))}},
		{Kind: api.Simple, Words: []api.Word{wordOf(bare("x="), quoted("1"))}},
		{Kind: api.Simple, Name: "x"}, {Kind: api.Simple, Name: "x", Words: many(2)}, {Kind: api.Simple, Name: "x", Words: many(1), Kids: []api.Cmd{a}},
		assign("1", bare("a")), assign("", bare("x=1")), assign("x=", bare("a")), assign("a b"), assign("x-"), assign("?", bare("a")), assign("$x"), assign("'x'"), assign("x\\\n"),
		assign(strings.Repeat("n", api.MaxName+1), bare("a")), assign("x", bare("")), assign("x", bare(""), quoted("a")), assign("x", bare("a"), bare("b")), assign("x", bare("a*")), assign("x", bare("a b")),
		assign("x", quoted("a"), quoted("b")), assign("x", quoted("\x00")), assign("x", param("")), assign("x", quoted("a"), quoted("")), assign("x=1"), assign("~"), assign("#"),
		of(api.Not), of(api.Not, a, b), of(api.Not, none), of(api.And), of(api.And, a), of(api.And, a, b, a), of(api.And, none, a), of(api.And, a, none), of(api.Or, a), of(api.Or, a, b, b),
		of(api.Seq), of(api.Seq, a), of(api.Seq, a, none), of(api.Seq, a, b, of(api.Seq, a)), of(api.If), of(api.If, a), of(api.If, a, b, a, b), of(api.If, a, b, none), of(api.If, none, a),
		of(api.While), of(api.While, a), of(api.While, a, b, a), of(api.While, a, none), of(api.Until, a), of(api.Until, a, b, a), of(api.Until, none, b),
		{Kind: api.Not, Name: "x", Kids: []api.Cmd{a}}, {Kind: api.And, Words: many(1), Kids: []api.Cmd{a, b}}, {Kind: api.Seq, Name: "x", Kids: []api.Cmd{a, b}}, {Kind: api.If, Words: many(1), Kids: []api.Cmd{a, b}},
		{Kind: api.While, Name: "x", Kids: []api.Cmd{a, b}}, {Kind: api.Until, Words: []api.Word{{}}, Kids: []api.Cmd{a, b}}, {Kind: api.Or, Name: "x", Kids: []api.Cmd{a, b}},
		forOver("x", nil), forOver("x", nil, a, b), forOver("x", nil, none), forOver("", nil, a), forOver("1", nil, a), forOver("?", nil, a), forOver("a-b", nil, a), forOver("x ", nil, a),
		forOver(strings.Repeat("n", api.MaxName+1), nil, a), forOver("x", many(api.MaxArgs+1), a), forOver("x", []api.Word{{}}, a), forOver("x", []api.Word{plain("a*")}, a), forOver("x", nil, simple("if")),
		nested(api.MaxNest + 1), of(api.Seq, a, nested(api.MaxNest)), of(10, a), {Kind: 255}, {Kind: 255, Kids: []api.Cmd{a}}, {Kind: 10, Words: many(1)},
	} {
		if syntax.May(c) {
			t.Errorf("May(%.200s) = true", shape(c))
		}
	}
}

// P3.1, P3.2: which bytes a for's name has.
func TestForNames(t *testing.T) {
	const letters = "abcdefghijklmnopqrstuvwxyzABCDEFGHIJKLMNOPQRSTUVWXYZ_"
	for b := range 256 {
		text := string([]byte{byte(b)})
		first, later := strings.Contains(letters, text), strings.Contains(letters+"0123456789", text)
		if syntax.May(forOver(text, nil, simple("a"))) != first || syntax.May(forOver("x"+text, nil, simple("a"))) != later {
			t.Errorf("May of a for with the name %q, or with x ahead of it", text)
		}
		if _, _, e := syntax.Parse("for " + text + " in; do a; done"); (e == api.OK) != first {
			t.Errorf("Parse of a for with the name %q: %d", text, e)
		}
		if _, _, e := syntax.Parse("for x" + text + " in; do a; done"); (e == api.OK) != later && !strings.Contains(" \t\n", text) {
			t.Errorf("Parse of a for with the name x%q: %d", text, e)
		}
	}
}

// P3.1.
func TestDepth(t *testing.T) {
	a := simple("a")
	for _, x := range []struct {
		c    api.Cmd
		want int
	}{
		{api.Cmd{}, 1}, {a, 1}, {assign("x"), 1}, {of(api.Not, a), 2}, {of(api.And, a, of(api.Not, a)), 3}, {of(api.And, of(api.Not, a), a), 3},
		{of(api.Seq, a, a, a), 2}, {of(api.If, a, of(api.Seq, a, of(api.Not, a)), of(api.Not, a)), 4}, {forOver("x", many(3), a), 2},
		{of(99, of(98), of(97, api.Cmd{})), 3}, {nested(60000), 60000}, {of(api.Seq), 1},
	} {
		if got := syntax.Depth(x.c); got != x.want {
			t.Errorf("Depth(%.200s) = %d; want %d", shape(x.c), got, x.want)
		}
	}
}

// P3.1: commands are the same by all but their places.
func TestSame(t *testing.T) {
	base := forOver("x", []api.Word{wordOf(bare("a"), param("y")), plain("b")}, of(api.And, simple("a"), of(api.Not, simple("b", "c"))))
	moved := forOver("x", []api.Word{{Parts: base.Words[0].Parts, At: 4}, {Parts: base.Words[1].Parts, At: 9}}, of(api.And, simple("a"), of(api.Not, simple("b", "c"))))
	moved.At, moved.Kids[0].At, moved.Kids[0].Kids[1].Kids[0].Words[1].At = 7, -8, 9
	for _, x := range []struct{ a, b api.Cmd }{
		{base, moved}, {moved, base}, {api.Cmd{}, api.Cmd{At: 3}}, {api.Cmd{}, api.Cmd{Words: []api.Word{}, Kids: []api.Cmd{}}},
		{of(77, api.Cmd{}), of(77, api.Cmd{At: 1})}, {api.Cmd{Words: []api.Word{{}}}, api.Cmd{Words: []api.Word{{Parts: []api.Part{}, At: 2}}}},
	} {
		if !syntax.Same(x.a, x.b) {
			t.Errorf("Same(%s, %s) = false", placed(x.a), placed(x.b))
		}
	}
	others := []api.Cmd{
		{}, base.Kids[0], of(api.For, base.Kids[0]), forOver("y", base.Words, base.Kids[0]), forOver("x", base.Words[:1], base.Kids[0]), forOver("x", base.Words), forOver("x", nil, base.Kids[0]),
		forOver("x", base.Words, base.Kids[0], base.Kids[0]), forOver("x", []api.Word{base.Words[1], base.Words[0]}, base.Kids[0]),
		forOver("x", []api.Word{wordOf(bare("a"), quotedParam("y")), plain("b")}, base.Kids[0]),
		forOver("x", base.Words, of(api.Or, simple("a"), of(api.Not, simple("b", "c")))), forOver("x", base.Words, of(api.And, simple("a"), of(api.Not, simple("b")))),
		forOver("x", base.Words, of(api.And, of(api.Not, simple("b", "c")), simple("a"))), {Kind: api.While, Name: "x", Words: base.Words, Kids: base.Kids},
	}
	for _, c := range others {
		if syntax.Same(base, c) || syntax.Same(c, base) {
			t.Errorf("Same(%s, %s) = true", shape(base), shape(c))
		}
	}
}

// R1: whatever is handed in, a call answers; R4: beside an error, nothing.
func TestOddInputs(t *testing.T) {
	for b := range 256 {
		for _, script := range []string{string([]byte{byte(b)}), "a " + string([]byte{byte(b)}), "for f " + string([]byte{byte(b), 'n'})} {
			c, at, e := syntax.Parse(script)
			if e != api.OK && placed(c) != placed(api.Cmd{}) || e == api.OK && at != 0 || at < 0 || at > len(script) {
				t.Errorf("Parse(%q) = %s, %d, %d", script, placed(c), at, e)
			}
		}
	}
	for kind := range 256 {
		for _, c := range []api.Cmd{{Kind: uint8(kind)}, {Kind: uint8(kind), Kids: make([]api.Cmd, 3)}, {Kind: uint8(kind), Words: make([]api.Word, 3), Name: "\x00"}} {
			if syntax.May(c) != (kind == 0 && len(c.Kids)+len(c.Words) == 0) || !syntax.Same(c, c) || syntax.Depth(c) > 2 {
				t.Errorf("of %s: %v, %v, %d", shape(c), syntax.May(c), syntax.Same(c, c), syntax.Depth(c))
			}
		}
	}
	if deep := nested(60000); syntax.May(deep) || !syntax.Same(deep, deep) {
		t.Error("a command of depth 60000: May, Same")
	}
}

// R3: an answer shares no memory with the script, and no two lists of it share any.
func TestNothingIsShared(t *testing.T) {
	script := "name=$value; if cmd 'a b'; then other one; fi; for each in some words; do thing $each; done"
	buffer := []byte(script)
	handed := unsafe.String(&buffer[0], len(buffer))
	c := mustParse(t, handed)
	want := placed(c)
	for i := range buffer {
		buffer[i] = '|'
	}
	if placed(c) != want {
		t.Error("the answer changes with the script's bytes:", placed(c))
	}
	spoil(&c)
	if again := mustParse(t, script); placed(again) != want {
		t.Error("a later answer shows what was written to an earlier one:", placed(again))
	}
}

// spoil writes to all that is in a command, and to the room behind its lists' ends; it would show in what shares that room.
func spoil(c *api.Cmd) {
	for i := range c.Words {
		parts := c.Words[i].Parts
		for j := range parts[:cap(parts)] {
			parts[:cap(parts)][j] = api.Part{Text: "spoilt"}
		}
	}
	for i := range c.Kids {
		spoil(&c.Kids[i])
	}
	words, kids := c.Words[len(c.Words):cap(c.Words)], c.Kids[len(c.Kids):cap(c.Kids)]
	for i := range words {
		words[i] = plain("spoilt")
	}
	for i := range kids {
		kids[i] = simple("spoilt")
	}
}

// R3: what is written behind the end of one list of an answer shows in no other.
func TestSpareRoomIsNotShared(t *testing.T) {
	c := mustParse(t, "a b c; d e f && g h i; for x in j k l; do m; n; o; done; if p; then q; else r; fi")
	want := placed(c)
	var write func(c api.Cmd)
	write = func(c api.Cmd) {
		_ = append(c.Words, plain("spoilt"))
		_ = append(c.Kids, simple("spoilt"))
		for _, w := range c.Words {
			_ = append(w.Parts, bare("spoilt"))
		}
		for _, kid := range c.Kids {
			write(kid)
		}
	}
	write(c)
	if placed(c) != want {
		t.Error("an answer's lists run into one another:", placed(c))
	}
}

// R3: what is asked of is not changed, and not read behind its end.
func TestArgumentsAreNotChanged(t *testing.T) {
	room := []api.Cmd{simple("a"), simple("b"), simple("if")}
	value := []api.Part{bare("1"), bare("2")}
	c := of(api.Seq, room[0], of(api.And, room[:2]...), api.Cmd{Kind: api.Simple, Name: "x", Words: []api.Word{{Parts: value[:1]}}})
	want := shape(c)
	if !syntax.May(c) || !syntax.Same(c, c) || syntax.Depth(c) != 3 {
		t.Error("May, Same, Depth of", want)
	}
	if shape(c) != want || value[1] != bare("2") || shape(room[2]) != "[if]" {
		t.Error("an argument is changed:", shape(c), value, room[2])
	}
}
