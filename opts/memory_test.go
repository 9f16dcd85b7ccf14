package opts_test

import (
	"slices"
	"strings"
	"sync"
	"testing"
	"unsafe"

	"touchstone/api"
)

// loose is a text over bytes that may be written over.
func loose(text string) (string, []byte) {
	bytes := []byte(text + "rf-")
	return unsafe.String(&bytes[0], len(text)), bytes
}

// roomy is a call in memory of its own, with words and bytes behind its ends, and how to write over all of that.
func roomy(c call) (call, func()) {
	known, under := loose(c.known)
	bytes := [][]byte{under}
	words := make([]string, 0, len(c.words)+3)
	for _, w := range c.words {
		text, under := loose(w)
		words, bytes = append(words, text), append(bytes, under)
	}
	words = append(words, "-r", "--", "room")[:len(words)]
	return call{known, words, c.least, c.most}, func() {
		all := words[:cap(words)]
		for i := range all {
			all[i] = "-written"
		}
		for _, under := range bytes {
			for i := range under {
				under[i] = 'w'
			}
		}
	}
}

// someCalls are calls that are not refused, and some that are.
func someCalls() []call {
	return []call{
		free("rf", "-rf", "name", "-r", ""), free("rf", "-r", "-f", "--", "--", "-x"), free("rf", "-f"), free("rf", "--"), free("rf"), free("", "name", "other"),
		free("rf", "-"), free("rf", "-r", ""), {"rf", list("-r", "name"), 1, 1},
		free("rf", "-r", "-x"), free("rf", "--f"), free("r-f", "-r"), {"rf", list("-r", "name"), 2, 2}, {"rf", list("name"), 0, 0}, {"rf", nil, 2, 1},
	}
}

// R3: nothing is read behind the ends of what is handed in, nor changed there or within.
func TestArgumentsStay(t *testing.T) {
	for _, c := range someCalls() {
		own, _ := roomy(c)
		got, e := own.on()
		want, wantE := c.byPatterns()
		if e != wantE || !same(got, want) {
			t.Errorf("%+v with room behind: %q, %d; want %q, %d", c, got, e, want, wantE)
		}
		if own.known != c.known || !slices.Equal(own.words, c.words) {
			t.Errorf("%+v became %+v", c, own)
		}
		if room := own.words[len(own.words):cap(own.words)]; !slices.Equal(room, list("-r", "--", "room")) {
			t.Errorf("behind the words of %+v stand %q", c, room)
		}
	}
}

// R3: pieces of one list, and of one text, are read as they are.
func TestPiecesOfOneList(t *testing.T) {
	words := list("-r", "-f", "a", "--", "-x", "", "-r", "-", "--f", "b")
	for i := range len(words) + 1 {
		for j := i; j <= len(words); j++ {
			free("rf", words[i:j]...).checkByPatterns(t)
			free("-rxf-"[1:4], words[i:j]...).checkByPatterns(t)
		}
	}
	const text = "-rf--x-"
	for i := range len(text) + 1 {
		for j := i; j <= len(text); j++ {
			free("rf", text[i:j], text[i:], text).checkByPatterns(t)
			free(text[i:j], "-rf").checkByPatterns(t)
		}
	}
}

// R3: an answer keeps nothing of what was handed in, its texts neither.
func TestWritingOverArguments(t *testing.T) {
	for _, c := range someCalls() {
		own, write := roomy(c)
		got, _ := own.on()
		write()
		want, _ := c.byPatterns()
		if !same(got, want) {
			t.Errorf("%+v, written over: %q; want %q", c, got, want)
		}
		for i := range len(want.Set) {
			if !got.Has(want.Set[i]) {
				t.Errorf("%+v, written over: Has(%q) = false", c, want.Set[i])
			}
		}
	}
}

// R3: what a caller writes to an answer, its room too, shows nowhere else.
func TestWritingOverAnswers(t *testing.T) {
	words := list("-rf", "--", "a", "-b", "c", "", "-d")
	c := free("rf", words...)
	first, _ := c.on()
	second, _ := c.on()
	all := first.Operands[:cap(first.Operands)]
	for i, text := range all[len(first.Operands):] {
		if text != "" {
			t.Errorf("in an answer's room %d stands %q", i, text)
		}
	}
	for i := range all {
		all[i] = "written"
	}
	_ = append(first.Operands, "written")
	if want, _ := c.byPatterns(); !same(second, want) {
		t.Errorf("another answer is %q", second)
	}
	c.check(t, "fr", "a", "-b", "c", "", "-d")
	if !slices.Equal(words, list("-rf", "--", "a", "-b", "c", "", "-d")) {
		t.Errorf("the words are %q", words)
	}
}

// R3: no two answers share a text's bytes, nor do two operands of one that is handed in twice.
func TestTextsInNewMemory(t *testing.T) {
	word := strings.Clone("name")
	words := list("-rf", word, word)
	first, _ := free("rf", words...).on()
	second, _ := free("rf", words...).on()
	texts := append(list(word, words[0], first.Set, second.Set), append(first.Operands, second.Operands...)...)
	for i, a := range texts {
		for _, b := range texts[i+1:] {
			if unsafe.StringData(a) == unsafe.StringData(b) {
				t.Errorf("%q and %q are one text", a, b)
			}
		}
	}
}

// R2: an answer hangs on nothing but the arguments, whatever was asked before.
func TestSameAnswersAgain(t *testing.T) {
	for range 3 {
		for _, c := range someCalls() {
			c.checkByPatterns(t)
		}
		call{"rfx", list("-x"), 0, 0}.check(t, "x")
	}
}

// R2: calls at the same time don't see one another.
func TestAtTheSameTime(t *testing.T) {
	var wait sync.WaitGroup
	for range 8 {
		for _, c := range someCalls() {
			wait.Go(func() { c.checkByPatterns(t) })
		}
	}
	wait.Wait()
}

// P11.1: however many words and letters there are.
func TestManyWords(t *testing.T) {
	const many = 1 << 18
	operands := slices.Repeat(list("-x"), many)
	c := free("rf", slices.Concat(slices.Repeat(list("-r", "-fr"), many), list("--"), operands)...)
	c.check(t, "fr", operands...)
	c.most = many
	c.check(t, "fr", operands...)
	c.most--
	c.refused(t, api.ErrOption)
	letters := strings.Repeat("rf", many)
	free(letters, "-"+letters, letters).check(t, "fr", letters)
	free(letters+"-", "-r").refused(t, api.ErrArg)
	free("rf", "-"+letters+"x").refused(t, api.ErrOption)
}
