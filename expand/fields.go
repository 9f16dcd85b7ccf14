package expand

import (
	"strings"

	"touchstone/api"
)

// textOf is what parts are expanded to, as one text.
func textOf(l []api.Part, valueOf func(name string) string) string {
	var text strings.Builder
	for _, part := range l {
		text.WriteString(expanded(part, valueOf))
	}
	return text.String()
}

// expanded is what a part stands for.
func expanded(part api.Part, valueOf func(name string) string) string {
	if part.Var {
		return valueOf(part.Text)
	}
	return part.Text
}

// splitter makes fields. Whether one is open does not hang on its bytes: a quoted part opens one that has none.
type splitter struct {
	fields []string
	open   bool
	bytes  []byte // of the field that is open
}

// addParts makes the fields of parts.
func (s *splitter) addParts(l []api.Part, valueOf func(name string) string) {
	for _, part := range l {
		text := expanded(part, valueOf)
		switch {
		case part.Var && !part.Quoted:
			s.addSplit(text)
		case part.Quoted || text != "":
			s.goOn(text)
		}
	}
	s.end()
}

// addField makes a text a field, as it is.
func (s *splitter) addField(text string) {
	s.goOn(text)
	s.end()
}

// addSplit goes through a value, which is split at blanks, tabs and line's ends.
func (s *splitter) addSplit(value string) {
	for i := range len(value) {
		switch value[i] {
		case ' ', '\t', '\n':
			s.end()
		default:
			s.goOn(value[i : i+1])
		}
	}
}

// goOn goes on with the field that is open, or opens one.
func (s *splitter) goOn(text string) {
	s.open = true
	s.bytes = append(s.bytes, text...)
}

// end ends the field that is open, if one is.
func (s *splitter) end() {
	if !s.open {
		return
	}
	s.fields = append(s.fields, string(s.bytes))
	s.open, s.bytes = false, s.bytes[:0]
}
