package print

import (
	"slices"
	"strings"

	"touchstone/api"
	"touchstone/word"
)

// writer writes commands that may be: any other one may have too few Kids, or a Kind that has no text.
type writer struct {
	line  strings.Builder
	kinds map[uint8]func(c api.Cmd) // how a command of that Kind is written
}

func newWriter() *writer {
	w := &writer{}
	joined := func(by string) func(c api.Cmd) {
		return func(c api.Cmd) {
			w.write(c.Kids[0], api.Seq)
			w.put(by)
			// Without { and } the second one would be grouped with the first.
			w.write(c.Kids[1], api.Seq, api.And, api.Or)
		}
	}
	loop := func(begin string) func(c api.Cmd) {
		return func(c api.Cmd) {
			w.put(begin)
			w.write(c.Kids[0])
			w.writeBody(c.Kids[1])
		}
	}
	w.kinds = map[uint8]func(c api.Cmd){
		api.Simple: w.writeSimple,
		api.Not: func(c api.Cmd) {
			w.put("! ")
			w.write(c.Kids[0], api.Not, api.And, api.Or, api.Seq)
		},
		api.And:   joined(" && "),
		api.Or:    joined(" || "),
		api.Seq:   w.writeSeq,
		api.If:    w.writeIf,
		api.While: loop("while "),
		api.Until: loop("until "),
		api.For: func(c api.Cmd) {
			w.put("for " + c.Name + " in")
			for _, x := range c.Words {
				w.put(" " + textOf(x))
			}
			w.writeBody(c.Kids[0])
		},
	}
	return w
}

// lineOf is the line of one of a script's commands.
func (w *writer) lineOf(row api.Cmd) string {
	w.line.Reset()
	w.write(row, api.Seq)
	return w.line.String()
}

func (w *writer) put(text string) { w.line.WriteString(text) }

// write writes a command, in { } if it is of one of these Kinds.
func (w *writer) write(c api.Cmd, grouped ...uint8) {
	// A line that is too large already is not asked for whole.
	if w.line.Len() > api.MaxScript {
		return
	}
	if !slices.Contains(grouped, c.Kind) {
		w.kinds[c.Kind](c)
		return
	}
	w.put("{ ")
	w.kinds[c.Kind](c)
	w.put("; }")
}

func (w *writer) writeSimple(c api.Cmd) {
	if c.Name != "" {
		w.put(textOf(assigned(c.Name, c.Words[0])))
		return
	}
	for i, x := range c.Words {
		if i > 0 {
			w.put(" ")
		}
		w.put(textOf(x))
	}
}

func (w *writer) writeSeq(c api.Cmd) {
	for i, kid := range c.Kids {
		if i > 0 {
			w.put("; ")
		}
		w.write(kid, api.Seq)
	}
}

func (w *writer) writeIf(c api.Cmd) {
	for i, reserved := range []string{"if ", "; then ", "; else "}[:len(c.Kids)] {
		w.put(reserved)
		w.write(c.Kids[i])
	}
	w.put("; fi")
}

// writeBody writes a loop's body, and ends the loop.
func (w *writer) writeBody(body api.Cmd) {
	w.put("; do ")
	w.write(body)
	w.put("; done")
}

// assigned is the word that an assignment is. The value's text by itself would not do: it may have no parts, or begin as no word does (x=~).
func assigned(name string, value api.Word) api.Word {
	first, rest := api.Part{Text: name + "="}, value.Parts
	if len(rest) > 0 && !rest[0].Var && !rest[0].Quoted {
		first.Text += rest[0].Text
		rest = rest[1:]
	}
	return api.Word{Parts: append([]api.Part{first}, rest...)}
}

// textOf is a word's text; the words of a command that may be have one.
func textOf(w api.Word) string {
	text, _ := word.Show(w)
	return text
}
