package syntax_test

import (
	"strings"
	"testing"

	"touchstone/api"
	"touchstone/syntax"
)

// dice throws the same numbers in each run.
type dice uint64

func (d *dice) roll(n int) int {
	*d = *d*6364136223846793005 + 1442695040888963407
	return int(uint64(*d)>>33) % n
}

func pick[T any](d *dice, from ...T) T { return from[d.roll(len(from))] }

// author writes a command's script, and puts into the command where it wrote what.
type author struct {
	*dice
	strings.Builder
	plainly bool // no more is written than must be
}

func (a *author) put(text string) { a.WriteString(text) }

// blank writes what may stand between two tokens.
func (a *author) blank() {
	if a.plainly {
		a.put(" ")
		return
	}
	a.put(pick(a.dice, " ", " ", "\t", "  ", " \\\n", "\t \\\n "))
}

// lines writes what may stand where line's ends may.
func (a *author) lines() {
	a.blank()
	if !a.plainly {
		a.put(pick(a.dice, "", "", "\n", "\n\n", "# a remark; fi\n", "\n \\\n\n\t"))
	}
}

// lineBreak ends a command so that another token can begin.
func (a *author) lineBreak() {
	if a.plainly {
		a.put(" ; ")
		return
	}
	a.put(pick(a.dice, ";", " ;", "\n", "; # a remark\n", " \n\n", ";\n", " # done\n\n"))
	a.lines()
}

// list writes a command where a list may stand.
func (a *author) list(c *api.Cmd) {
	a.lines()
	if c.Kind != api.Seq || !a.plainly && a.roll(4) == 0 {
		a.row(c)
		a.lineBreak()
		return
	}
	for i := range c.Kids {
		a.row(&c.Kids[i])
		a.lineBreak()
	}
	if len(c.Kids) > 0 {
		c.At = c.Kids[0].At
	}
}

// group writes a command in { and }.
func (a *author) group(c *api.Cmd) {
	a.put("{")
	a.list(c)
	a.put("}")
}

// isJoined tells whether a command is two with && or || between.
func isJoined(c api.Cmd) bool {
	return (c.Kind == api.And || c.Kind == api.Or) && len(c.Kids) == 2
}

// row writes a command where one or more with && and || may stand.
func (a *author) row(c *api.Cmd) {
	if !isJoined(*c) || !a.plainly && a.roll(6) == 0 {
		a.one(c)
		return
	}
	a.row(&c.Kids[0])
	a.blank()
	a.put(map[uint8]string{api.And: "&&", api.Or: "||"}[c.Kind])
	a.lines()
	a.one(&c.Kids[1])
	c.At = c.Kids[0].At
}

// one writes a command where just one may stand.
func (a *author) one(c *api.Cmd) {
	if isJoined(*c) || c.Kind == api.Seq || !a.plainly && a.roll(10) == 0 {
		a.group(c)
		return
	}
	c.At = a.Len()
	switch c.Kind {
	case api.Not:
		a.put("!")
		a.blank()
		for i := range c.Kids {
			a.one(&c.Kids[i])
		}
	case api.If:
		a.put("if")
		a.branches(c)
		a.put("fi")
	case api.While, api.Until:
		a.put(map[uint8]string{api.While: "while", api.Until: "until"}[c.Kind])
		a.between(c.Kids, "do")
		a.put("done")
	case api.For:
		a.put("for ")
		a.put(c.Name)
		a.lines()
		a.put("in")
		a.words(c.Words)
		a.lineBreak()
		a.put("do")
		a.between(c.Kids, "")
		a.put("done")
	default:
		a.simple(c)
	}
}

// between writes lists with a word between them.
func (a *author) between(kids []api.Cmd, word string) {
	for i := range kids {
		if i > 0 {
			a.put(word)
		}
		a.list(&kids[i])
	}
}

func (a *author) branches(c *api.Cmd) {
	if len(c.Kids) != 3 {
		a.between(c.Kids, "then")
		return
	}
	a.between(c.Kids[:2], "then")
	last := &c.Kids[2]
	if last.Kind == api.If && len(last.Kids) >= 2 && a.roll(2) == 0 {
		last.At = a.Len()
		a.put("elif")
		a.branches(last)
		return
	}
	a.put("else")
	a.list(last)
}

func (a *author) words(words []api.Word) {
	for i := range words {
		a.blank()
		words[i].At = a.Len()
		a.put(wordText(words[i]))
	}
}

func (a *author) simple(c *api.Cmd) {
	if c.Name != "" && len(c.Words) > 0 {
		c.Words[0].At = a.Len()
		a.put(c.Name + "=" + wordText(c.Words[0]))
		a.words(c.Words[1:])
		return
	}
	if c.Name != "" {
		a.put(c.Name + "=")
	}
	for i := range c.Words {
		if i > 0 {
			a.blank()
		}
		c.Words[i].At = a.Len()
		a.put(wordText(c.Words[i]))
	}
}

// inventor thinks commands up.
type inventor struct {
	*dice
	wrong int // how often, of a thousand times, something is as it may not be
}

func (v *inventor) errs() bool { return v.wrong > v.roll(1000) }

func (v *inventor) word(first bool) api.Word {
	if v.errs() {
		return pick(v.dice, api.Word{}, plain(""), plain("a*"), plain("a b"), plain("if"), plain("x=1"), plain("{"), plain("~"), wordOf(bare("a"), bare("b")), wordOf(quoted("a"), quoted("")), wordOf(param("0")), plain("#"))
	}
	if !first && v.roll(6) == 0 {
		return pick(v.dice, plain("if"), plain("!"), plain("}"), plain("{"), plain("x=1"), plain("done"), plain("in"))
	}
	return pick(v.dice, plain("a"), plain("b"), plain("ifs"), plain("1x=2"), wordOf(quoted("")), wordOf(quoted("if")), wordOf(param("x")), wordOf(quotedParam("1"), quoted(" b")), wordOf(bare("a"), quoted("b'c;#\n"), param("?")), wordOf(param("f"), bare("=1")))
}

func (v *inventor) words(least, most int) []api.Word {
	var words []api.Word
	n := least + v.roll(most-least+1)
	if v.errs() {
		n = v.roll(3)
	}
	for i := range n {
		words = append(words, v.word(least > 0 && i == 0))
	}
	return words
}

func (v *inventor) name() string {
	if v.errs() {
		return pick(v.dice, "", "1", "a-b", "x=", "?", "x y", "a\\\nb")
	}
	return pick(v.dice, "x", "_", "if", "Name_9")
}

func (v *inventor) simple() api.Cmd {
	if v.roll(4) > 0 {
		return api.Cmd{Kind: api.Simple, Words: v.words(1, 4)}
	}
	value := v.word(false)
	switch v.roll(4) {
	case 0:
		value = api.Word{}
	case 1:
		value = pick(v.dice, plain("~"), plain("#"), plain("=="), plain("fi"))
	}
	c := api.Cmd{Kind: api.Simple, Name: v.name(), Words: []api.Word{value}}
	if v.errs() {
		c.Words = v.words(0, 2)
	}
	return c
}

// command thinks up one that is at most so deep.
func (v *inventor) command(depth int) api.Cmd {
	kind := pick(v.dice, api.Simple, api.Not, api.And, api.Or, api.Seq, api.If, api.If, api.While, api.Until, api.For)
	if v.errs() {
		kind = uint8(v.roll(12))
	}
	if depth <= 1 || kind == api.Simple {
		return v.simple()
	}
	count := map[uint8]int{api.Not: 1, api.And: 2, api.Or: 2, api.Seq: 2 + v.roll(3), api.If: 2 + v.roll(2), api.While: 2, api.Until: 2, api.For: 1}[kind]
	if v.errs() {
		count = v.roll(4)
	}
	c := api.Cmd{Kind: kind}
	for range count {
		c.Kids = append(c.Kids, v.command(depth-1-v.roll(2)))
	}
	if kind == api.For {
		c.Name, c.Words = v.name(), v.words(0, 3)
	}
	if v.errs() {
		c.Name = v.name()
	}
	if v.errs() {
		c.Words = v.words(0, 2)
	}
	return c
}

// P3.1, P3.2: a command that is written, in whatever form, is read as that one, at the places where it stands.
func TestWrittenCommandsAreRead(t *testing.T) {
	d := dice(1)
	for range 20000 {
		c := (&inventor{dice: &d}).command(1 + d.roll(6))
		a := author{dice: &d}
		a.list(&c)
		script := a.String()
		got, at, e := syntax.Parse(script)
		if e != api.OK || at != 0 || placed(got) != placed(c) {
			t.Fatalf("Parse(%q) = %s, %d, %d; want %s", script, placed(got), at, e, placed(c))
		}
		if !syntax.May(c) || !syntax.Same(got, c) {
			t.Fatalf("of %s: May, Same", shape(c))
		}
	}
}

// P3.2: a command may be just if it is read out of what is written for it.
func TestMayIsWhatCanBeSaid(t *testing.T) {
	d := dice(2)
	count := [2]int{}
	for range 60000 {
		c := (&inventor{&d, 40}).command(1 + d.roll(3))
		a := author{dice: &d, plainly: true}
		if c.Kind != api.None || len(c.Words)+len(c.Kids) > 0 {
			a.list(&c)
		}
		got, _, e := syntax.Parse(a.String())
		said := e == api.OK && syntax.Same(got, c)
		if syntax.May(c) != said {
			t.Fatalf("May(%s) = %v; %q is read as %s", shape(c), !said, a.String(), shape(got))
		}
		if said {
			count[1]++
		} else {
			count[0]++
		}
	}
	if count[0] < 10000 || count[1] < 10000 {
		t.Error("so many that may not be, and may:", count)
	}
}

// risesFrom tells whether a command's place is at least that one, and so on within, where each stands behind the one ahead of it.
func risesFrom(c api.Cmd, least int) bool {
	if c.At < least {
		return false
	}
	least = c.At
	for _, kid := range c.Kids {
		if !risesFrom(kid, least) {
			return false
		}
		least = kid.At + 1
	}
	return true
}

// P3.3.
func TestWhatIsReadMayBe(t *testing.T) {
	d := dice(3)
	for range 5000 {
		c := (&inventor{dice: &d}).command(6)
		a := author{dice: &d}
		a.list(&c)
		if got := mustParse(t, a.String()); !syntax.May(got) || !risesFrom(got, 0) {
			t.Fatalf("Parse(%q) = %s", a.String(), placed(got))
		}
	}
}

// scriptOf is a script of a command that is not so deep that others could not stand about it.
func scriptOf(d *dice) (string, api.Cmd) {
	c := (&inventor{dice: d}).command(1 + d.roll(4))
	a := author{dice: d}
	a.list(&c)
	script := a.String()
	if short := strings.TrimRight(script, "\n; \t"); d.roll(2) == 0 && !strings.HasSuffix(short, "\\") {
		return short, c
	}
	return script, c
}

// P3.4.
func TestTwoScripts(t *testing.T) {
	d := dice(4)
	for range 5000 {
		first, a := scriptOf(&d)
		second, b := scriptOf(&d)
		if a.Kind == api.Seq || b.Kind == api.Seq || strings.HasSuffix(first, "\\") {
			continue
		}
		if got := mustParse(t, first+"\n"+second); !syntax.Same(got, of(api.Seq, a, b)) {
			t.Fatalf("of %q and %q: %s", first, second, shape(got))
		}
	}
}

// P3.5.
func TestWithin(t *testing.T) {
	d := dice(5)
	yes := simple("true")
	for range 5000 {
		script, c := scriptOf(&d)
		if strings.HasSuffix(script, "\\") {
			continue
		}
		for _, x := range []struct {
			ahead, behind string
			want          api.Cmd
		}{
			{"{ ", "}", c}, {"if true; then ", "fi", of(api.If, yes, c)}, {"while true; do ", "done", of(api.While, yes, c)},
		} {
			if got := mustParse(t, x.ahead+script+"\n"+x.behind); !syntax.Same(got, x.want) {
				t.Fatalf("of %q in %s: %s", script, x.behind, shape(got))
			}
		}
	}
	if got := mustParse(t, "# none\n"); got.Kind != api.None {
		t.Error("of no commands:", shape(got))
	}
}
