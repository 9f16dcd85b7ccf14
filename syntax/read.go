package syntax

import (
	"strings"

	"touchstone/api"
	"touchstone/word"
)

// fault is what is thrown: what is wrong, and at which byte of the script.
type fault struct {
	at int
	e  api.Errno
}

// scriptEnd is the text of the token that stands for the script's end: no other one has no bytes.
const scriptEnd = ""

// begin reads the command that begins by a reserved word, which stands next.
type begin func(r *reader) api.Cmd

// begins has for each reserved word how the command is read that begins by it.
func begins() map[string]begin {
	return map[string]begin{
		"!": (*reader).readNot, "{": (*reader).readGroup,
		"if": (*reader).readIf, "for": (*reader).readFor,
		"while": (*reader).readWhile, "until": (*reader).readUntil,

		"case": (*reader).unsupported, "function": (*reader).unsupported, "select": (*reader).unsupported,
		"time": (*reader).unsupported, "coproc": (*reader).unsupported, "[[": (*reader).unsupported,

		"then": (*reader).misplaced, "elif": (*reader).misplaced, "else": (*reader).misplaced, "fi": (*reader).misplaced,
		"do": (*reader).misplaced, "done": (*reader).misplaced, "}": (*reader).misplaced,
		"in": (*reader).misplaced, "esac": (*reader).misplaced,
	}
}

// reader goes through a script's tokens.
type reader struct {
	tokens  []api.Token // those that are left, the script's end is the last one
	begins  map[string]begin
	tooMany bool // a command had more words than there may be
}

// read is the command of all tokens; of ones that are wrong, the byte at which they are.
func (r *reader) read() (c api.Cmd, at int, e api.Errno) {
	defer func() {
		thrown := recover()
		if thrown == nil {
			return
		}
		wrong, ok := thrown.(fault)
		if !ok {
			panic(thrown)
		}
		c, at, e = api.Cmd{}, wrong.at, wrong.e
	}()
	r.passLines()
	if !r.stands(scriptEnd) {
		c = r.readList(scriptEnd)
		r.expect(scriptEnd)
	}
	return c, 0, api.OK
}

// next is the token that stands next.
func (r *reader) next() api.Token { return r.tokens[0] }

// stands tells whether the next token has that text; a quoted one has its quotes in it.
func (r *reader) stands(text string) bool { return r.next().Text == text }

// pass takes the next token, of which there is always one: the script's end is not passed.
func (r *reader) pass() api.Token {
	t := r.next()
	if !r.stands(scriptEnd) {
		r.tokens = r.tokens[1:]
	}
	return t
}

// expect takes a token of that text: no other one may stand there.
func (r *reader) expect(text string) {
	if !r.stands(text) {
		panic(r.wrong())
	}
	r.pass()
}

// wrong is what is wrong with the next token, where it may not stand.
func (r *reader) wrong() fault {
	t := r.next()
	if t.Kind != api.Op {
		return fault{t.At, api.ErrSyntax}
	}
	switch t.Text {
	case ";", "&&", "||", "!", "{", "}":
		return fault{t.At, api.ErrSyntax}
	}
	return fault{t.At, api.ErrNever}
}

func (r *reader) misplaced() api.Cmd   { panic(r.wrong()) }
func (r *reader) unsupported() api.Cmd { panic(fault{r.next().At, api.ErrNever}) }

// passLines passes line's ends, as many as there are.
func (r *reader) passLines() {
	for r.next().Kind == api.Newline {
		r.pass()
	}
}

// passBreak passes a ; or a line's end, and the line's ends behind that; it tells whether there was one.
func (r *reader) passBreak() bool {
	broken := r.stands(";") || r.next().Kind == api.Newline
	if broken {
		r.pass()
		r.passLines()
	}
	return broken
}

// readList reads a list's command: commands up to a token that stands where one could begin, and has one of these texts.
func (r *reader) readList(ends ...string) api.Cmd {
	isEnded := func() bool {
		for _, text := range ends {
			if r.stands(text) {
				return true
			}
		}
		return false
	}
	r.passLines()
	rows := []api.Cmd{r.readRow()}
	for r.passBreak() && !isEnded() {
		rows = append(rows, r.readRow())
	}
	if len(rows) == 1 {
		return rows[0]
	}
	return api.Cmd{Kind: api.Seq, At: rows[0].At, Kids: rows}
}

// readRow reads one command, or more with && or || between.
func (r *reader) readRow() api.Cmd {
	row := r.readOne()
	for {
		kind := joiner(r.next())
		if kind == api.None {
			return row
		}
		r.pass()
		r.passLines()
		row = api.Cmd{Kind: kind, At: row.At, Kids: []api.Cmd{row, r.readOne()}}
	}
}

// joiner is the Kind of what a token joins two commands to; None: it joins none.
func joiner(t api.Token) uint8 {
	switch t.Text {
	case "&&":
		return api.And
	case "||":
		return api.Or
	}
	return api.None
}

// readOne reads one command of a row.
func (r *reader) readOne() api.Cmd {
	if read := r.begins[r.next().Text]; read != nil {
		return read(r)
	}
	return r.readSimple()
}

func (r *reader) readNot() api.Cmd {
	at := r.pass().At
	return api.Cmd{Kind: api.Not, At: at, Kids: []api.Cmd{r.readOne()}}
}

// readGroup reads a list in { and }, which is just that list's command.
func (r *reader) readGroup() api.Cmd {
	r.pass()
	c := r.readList("}")
	r.expect("}")
	return c
}

func (r *reader) readIf() api.Cmd {
	c := r.readBranch()
	r.expect("fi")
	return c
}

// readBranch reads an if or an elif, up to the fi that they have in common.
func (r *reader) readBranch() api.Cmd {
	c := api.Cmd{Kind: api.If, At: r.pass().At}
	c.Kids = append(c.Kids, r.readList("then"))
	r.expect("then")
	c.Kids = append(c.Kids, r.readList("elif", "else", "fi"))
	switch {
	case r.stands("elif"):
		c.Kids = append(c.Kids, r.readBranch())
	case r.stands("else"):
		r.pass()
		c.Kids = append(c.Kids, r.readList("fi"))
	}
	return c
}

func (r *reader) readWhile() api.Cmd { return r.readLoop(api.While) }
func (r *reader) readUntil() api.Cmd { return r.readLoop(api.Until) }

func (r *reader) readLoop(kind uint8) api.Cmd {
	at := r.pass().At
	condition := r.readList("do")
	return api.Cmd{Kind: kind, At: at, Kids: []api.Cmd{condition, r.readBody()}}
}

// readBody reads a loop's body: do list done.
func (r *reader) readBody() api.Cmd {
	r.expect("do")
	c := r.readList("done")
	r.expect("done")
	return c
}

func (r *reader) readFor() api.Cmd {
	c := api.Cmd{Kind: api.For, At: r.pass().At}
	if t := r.next(); t.Kind != api.Plain || !isName(t.Text) {
		panic(r.wrong())
	}
	// The answer shares no memory with what another layer told.
	c.Name = strings.Clone(r.pass().Text)
	r.passLines()
	r.expectIn()
	c.Words = r.readWords(nil)
	// Behind words a do is one of them, so none can stand next where there is no break.
	r.passBreak()
	c.Kids = []api.Cmd{r.readBody()}
	return c
}

// expectIn takes a for's in: what else stands there is another form of a for, which is not supported.
func (r *reader) expectIn() {
	if !r.stands("in") && !r.stands(scriptEnd) {
		panic(fault{r.next().At, api.ErrNever})
	}
	r.expect("in")
}

// readSimple reads a simple command, or an assignment.
func (r *reader) readSimple() api.Cmd {
	if !r.isWord() {
		panic(r.wrong())
	}
	first := r.readWord()
	if comesToReserved(first, r.begins) {
		panic(fault{first.At, api.ErrNever})
	}
	name, value, assigns := word.Assign(first)
	if !assigns {
		return api.Cmd{Kind: api.Simple, At: first.At, Words: r.readWords([]api.Word{first})}
	}
	if r.isWord() {
		panic(fault{r.readWord().At, api.ErrNever})
	}
	return api.Cmd{Kind: api.Simple, At: first.At, Name: name, Words: []api.Word{value}}
}

// isWord tells whether the next token is a word, where it begins no command.
func (r *reader) isWord() bool {
	return r.next().Kind == api.Plain || r.stands("!") || r.stands("{") || r.stands("}")
}

// readWords reads words behind those that a command has already.
func (r *reader) readWords(words []api.Word) []api.Word {
	for r.isWord() {
		words = append(words, r.readWord())
	}
	r.tooMany = r.tooMany || len(words) > api.MaxArgs
	return words
}

func (r *reader) readWord() api.Word {
	t := r.pass()
	t.Kind = api.Plain // a !, a { or a } is one here, too
	w, at, e := word.Of(t)
	if e != api.OK {
		panic(fault{at, e})
	}
	return w
}
