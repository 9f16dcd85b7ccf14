package word

import (
	"strings"

	"touchstone/api"
)

// What is wrong with a text is thrown as the place of the byte that is wrong.
type (
	wrongAt int // the text is not of the form
	neverAt int // the text is not supported
)

// Of is the word of a token; of a token that is none, the byte at which it is wrong.
func Of(t api.Token) (api.Word, int, api.Errno) {
	if t.Kind != api.Plain || t.Text == "" {
		return api.Word{}, 0, api.ErrForm
	}
	parts, at, e := read(t.Text)
	if e != api.OK {
		return api.Word{}, t.At + at, e
	}
	return api.Word{Parts: parts, At: t.At}, 0, api.OK
}

// read reads a text into parts; of one that is wrong it tells at which of its bytes.
func read(text string) (parts []api.Part, at int, e api.Errno) {
	defer func() {
		switch thrown := recover().(type) {
		case nil:
		case wrongAt:
			at, e = int(thrown), api.ErrSyntax
		case neverAt:
			at, e = int(thrown), api.ErrNever
		default:
			panic(thrown)
		}
	}()
	r := reader{text: text}
	r.readAll()
	return r.parts.finish(), 0, api.OK
}

// reader goes through a word's text: what it has read are parts.
type reader struct {
	text  string
	at    int
	parts partList
}

func (r *reader) readAll() {
	readQuoted := func(readByte func()) {
		opened := r.at
		r.at++
		r.parts.open(true)
		for r.at < len(r.text) && r.text[r.at] != r.text[opened] {
			readByte()
		}
		if r.at == len(r.text) {
			panic(wrongAt(opened))
		}
		r.at++
	}
	for r.at < len(r.text) {
		switch r.text[r.at] {
		case '\'':
			readQuoted(r.readInSingle)
		case '"':
			readQuoted(r.readInDouble)
		default:
			r.readBare()
		}
	}
	if r.parts.none() {
		panic(wrongAt(0))
	}
}

// keep reads a byte that stands for itself.
func (r *reader) keep(quoted bool) {
	if r.text[r.at] == 0 {
		panic(wrongAt(r.at))
	}
	r.parts.put(r.text[r.at], quoted)
	r.at++
}

func (r *reader) readInSingle() { r.keep(true) }

func (r *reader) readInDouble() {
	switch r.text[r.at] {
	case '`':
		panic(neverAt(r.at))
	case '$':
		r.readDollar(true)
	case '\\':
		r.readBackslashInDouble()
	default:
		r.keep(true)
	}
}

func (r *reader) readBackslashInDouble() {
	behind := r.text[r.at+1:]
	if strings.HasPrefix(behind, "\n") {
		r.at += 2
		return
	}
	if behind != "" && meansInDouble(behind[0]) {
		r.at++
	}
	r.keep(true)
}

// readBare reads what stands outside of quotes.
func (r *reader) readBare() {
	b := r.text[r.at]
	switch {
	case b == '\\':
		r.readBackslash()
	case b == '$':
		r.readDollar(false)
	case strings.IndexByte(endsWord, b) >= 0, b == '#' && r.parts.none():
		panic(wrongAt(r.at))
	case strings.IndexByte(unsupported, b) >= 0, b == '~' && r.parts.none():
		panic(neverAt(r.at))
	default:
		r.keep(false)
	}
}

func (r *reader) readBackslash() {
	behind := r.text[r.at+1:]
	switch {
	case behind == "":
		panic(wrongAt(r.at))
	case behind[0] == '\n':
		r.at += 2
	default:
		r.at++
		r.keep(true)
	}
}

func (r *reader) readDollar(quoted bool) {
	behind := r.text[r.at+1:]
	if name, length := paramAt(behind); length > 0 {
		r.parts.putParam(name, quoted)
		r.at += 1 + length
		return
	}
	if behind != "" && strings.IndexByte("0*@$!-({", behind[0]) >= 0 {
		panic(neverAt(r.at))
	}
	r.keep(true)
}

// paramAt is the parameter that a text asks for which stands behind a $, and by how many bytes; 0: none.
func paramAt(text string) (string, int) {
	within, braced := strings.CutPrefix(text, "{")
	name := within[:paramLength(within)]
	if !braced {
		return name, len(name)
	}
	if name == "" || !strings.HasPrefix(within[len(name):], "}") {
		return "", 0
	}
	return name, len(name) + 2
}

// partList puts parts together out of bytes and parameters: of its last part, while that is open, it has the bytes.
type partList struct {
	parts  []api.Part
	isOpen bool
	quoted bool
	bytes  []byte
}

// none tells whether there is no part yet.
func (l *partList) none() bool { return !l.isOpen && len(l.parts) == 0 }

// open sees to it that a part of bytes of that kind is open, even if none come.
func (l *partList) open(quoted bool) {
	if l.isOpen && l.quoted == quoted {
		return
	}
	l.end(quoted)
	l.isOpen, l.quoted = true, quoted
}

// end ends the part that is open; what comes next is quoted or not.
func (l *partList) end(nextQuoted bool) {
	if !l.isOpen {
		return
	}
	l.isOpen = false
	beside := nextQuoted || len(l.parts) > 0 && l.parts[len(l.parts)-1].Quoted
	// A pair of quotes with nothing in it says nothing beside what is quoted.
	if l.quoted && len(l.bytes) == 0 && beside {
		return
	}
	l.parts = append(l.parts, api.Part{Text: string(l.bytes), Quoted: l.quoted})
	l.bytes = l.bytes[:0]
}

func (l *partList) put(b byte, quoted bool) {
	l.open(quoted)
	l.bytes = append(l.bytes, b)
}

func (l *partList) putParam(name string, quoted bool) {
	l.end(quoted)
	// The name is a piece of the token's text, with which an answer shares no memory.
	l.parts = append(l.parts, api.Part{Var: true, Text: strings.Clone(name), Quoted: quoted})
}

// finish are the parts, when all is read.
func (l *partList) finish() []api.Part {
	l.end(false)
	return l.parts
}
