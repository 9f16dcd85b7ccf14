package opts

// marks has for each byte whether it is marked.
type marks [256]bool

// letters are those by which options may be known.
func letters() marks {
	var m marks
	for i := range 26 {
		m['a'+i], m['A'+i] = true, true
	}
	return m
}

// marksOf are marks of a text's bytes; it says no, if one of them may not be.
func marksOf(text string, may marks) (marks, bool) {
	var m marks
	ok := m.add(text, may)
	return m, ok
}

// add marks a text's bytes, up to one that may not be: then it says no.
func (m *marks) add(text string, may marks) bool {
	for i := range len(text) {
		if !may[text[i]] {
			return false
		}
		m[text[i]] = true
	}
	return true
}

// text has the bytes that are marked, rising.
func (m *marks) text() string {
	var text []byte
	for b, marked := range m {
		if marked {
			text = append(text, byte(b))
		}
	}
	return string(text)
}
