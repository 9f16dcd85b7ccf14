package opts_test

import (
	"math/rand"
	"regexp"
	"slices"
	"strings"
	"testing"

	"touchstone/api"
	"touchstone/opts"
)

// The chapter's sentences a second time, as patterns of whole words.
var (
	noLetter   = regexp.MustCompile(`[^a-zA-Z]`)
	optionWord = regexp.MustCompile(`^-[^-]`)
	noOption   = regexp.MustCompile(`^--(?s:.)`)
)

// byPatterns is what a call must answer.
func (c call) byPatterns() (opts.Opts, api.Errno) {
	if noLetter.MatchString(c.known) || c.least < 0 || c.least > c.most {
		return opts.Opts{}, api.ErrArg
	}
	end := slices.IndexFunc(c.words, func(w string) bool { return !optionWord.MatchString(w) })
	if end < 0 {
		end = len(c.words)
	}
	operands := c.words[end:]
	if len(operands) > 0 && noOption.MatchString(operands[0]) {
		return opts.Opts{}, api.ErrOption
	}
	if len(operands) > 0 && operands[0] == "--" {
		operands = operands[1:]
	}
	var set []byte
	for _, w := range c.words[:end] {
		set = append(set, w[1:]...)
	}
	for _, b := range set {
		if strings.IndexByte(c.known, b) < 0 {
			return opts.Opts{}, api.ErrOption
		}
	}
	if len(operands) < c.least || len(operands) > c.most {
		return opts.Opts{}, api.ErrOption
	}
	slices.Sort(set)
	return opts.Opts{Set: string(slices.Compact(set)), Operands: operands}, api.OK
}

func (c call) checkByPatterns(t *testing.T) {
	t.Helper()
	if want, e := c.byPatterns(); e == api.OK {
		c.check(t, want.Set, want.Operands...)
	} else {
		c.refused(t, e)
	}
}

// someWords are words of each kind.
var someWords = list("-r", "-f", "-rf", "-fr", "-x", "-rx", "-", "--", "---", "--r", "", "r", "a-r", "-r-", "-1", "-\x00", "-f\xff")

// lists hands on every list of at most so many of some words.
func lists(words []string, most int, yield func([]string)) {
	yield(nil)
	if most == 0 {
		return
	}
	for _, w := range words {
		lists(words, most-1, func(rest []string) { yield(append(list(w), rest...)) })
	}
}

// P11.1, over every short list of words of each kind.
func TestEveryShortList(t *testing.T) {
	lists(someWords, 3, func(words []string) {
		for _, known := range list("", "rf", "xr", "r-") {
			free(known, words...).checkByPatterns(t)
			call{known, words, 1, 2}.checkByPatterns(t)
			call{known, words, 2, 1}.checkByPatterns(t)
		}
	})
	lists(list("-r", "-f", "-", "--", "", "--r"), 5, func(words []string) { call{"fr", words, 0, 3}.checkByPatterns(t) })
}

// P11.1, over every short text as a word, and as the letters that are known.
func TestEveryShortText(t *testing.T) {
	texts(list("-", "r", "F", " ", "\x00", "\x80", "\n", "1"), 4, func(text string) {
		free("rF", text).checkByPatterns(t)
		free("rF", "-F"+text, text, "a").checkByPatterns(t)
		free(text, "-rF").checkByPatterns(t)
	})
}

// texts hands on every text of at most so many of some pieces.
func texts(pieces []string, most int, yield func(string)) {
	lists(pieces, most, func(words []string) { yield(strings.Join(words, "")) })
}

// randomText is a text of bytes among which those that mean something come often.
func randomText(r *rand.Rand) string {
	const often = "--rrffaAzZ"
	text := make([]byte, r.Intn(5))
	for i := range text {
		text[i] = often[r.Intn(len(often))]
		if r.Intn(16) == 0 {
			text[i] = byte(r.Intn(256))
		}
	}
	return string(text)
}

// randomWord is a word; most of them are options.
func randomWord(r *rand.Rand) string {
	if r.Intn(3) == 0 {
		return randomText(r)
	}
	return "-" + randomText(r)
}

// randomWords are a few words.
func randomWords(r *rand.Rand) []string {
	words := make([]string, r.Intn(7))
	for i := range words {
		words[i] = randomWord(r)
	}
	return words
}

// P11.1, over random words.
func TestRandomWords(t *testing.T) {
	r := rand.New(rand.NewSource(11))
	told := 0
	for range 100000 {
		c := call{"rfaAzZ"[r.Intn(4):], randomWords(r), r.Intn(4) - 1, r.Intn(8) - 1}
		if r.Intn(8) == 0 {
			c.known = randomText(r)
		}
		c.checkByPatterns(t)
		if o, e := c.on(); e == api.OK && o.Set != "" {
			told++
		}
	}
	if told < 1000 {
		t.Errorf("just %d of the random calls had options", told)
	}
}

// rows hands on every row of some letters.
func rows(letters string, yield func(string)) {
	if letters == "" {
		yield("")
	}
	for i := range len(letters) {
		rows(letters[:i]+letters[i+1:], func(rest string) { yield(letters[i:i+1] + rest) })
	}
}

// cuts hands on every way to tell letters as options, in one word and in several.
func cuts(letters string, yield func([]string)) {
	if letters == "" {
		yield(nil)
	}
	for n := 1; n <= len(letters); n++ {
		cuts(letters[n:], func(rest []string) { yield(append(list("-"+letters[:n]), rest...)) })
	}
}

// P11.2: options one by one, together, in another row, or twice.
func TestTogether(t *testing.T) {
	behind := list("a", "-r", "--")
	for _, letters := range list("", "r", "rf", "raF", "rfaF", "rr", "rfr", "rraa") {
		set := string(slices.Compact([]byte(sorted(letters))))
		rows(letters, func(row string) {
			cuts(row, func(words []string) {
				free("rfaF", slices.Concat(words, behind)...).check(t, set, behind...)
				free("rfaF", slices.Concat(words, words, behind)...).check(t, set, behind...)
				free("rfaF", slices.Concat(words, list("--"), behind)...).check(t, set, behind...)
				free("rfaF", slices.Concat(words, list("-x"), behind)...).refused(t, api.ErrOption)
			})
		})
	}
}

// sorted has a text's bytes, rising.
func sorted(text string) string {
	bytes := []byte(text)
	slices.Sort(bytes)
	return string(bytes)
}

// P11.3: behind -- all words are operands, as they are.
func TestBehindTheEnd(t *testing.T) {
	check := func(words []string) {
		free("rf", append(list("--"), words...)...).check(t, "", words...)
		free("", append(list("--"), words...)...).check(t, "", words...)
		free("rf", append(list("-r", "-fr", "--"), words...)...).check(t, "fr", words...)
	}
	lists(someWords, 3, check)
	texts(list("-", "r", "x", "\x00", "\xff"), 5, func(text string) { check(list(text)) })
	r := rand.New(rand.NewSource(113))
	for range 2000 {
		check(randomWords(r))
	}
}

// P11.4: what was answered, told again, comes to the same.
func TestAsTold(t *testing.T) {
	r := rand.New(rand.NewSource(114))
	again := 0
	check := func(words []string) {
		first, e := free("rfaAzZ", words...).on()
		if e != api.OK {
			return
		}
		again++
		var told []string
		for i := range len(first.Set) {
			told = append(told, "-"+first.Set[i:i+1])
		}
		free("rfaAzZ", slices.Concat(told, list("--"), first.Operands)...).check(t, first.Set, first.Operands...)
		if first.Set != "" {
			free("rfaAzZ", slices.Concat(list("-"+first.Set, "--"), first.Operands)...).check(t, first.Set, first.Operands...)
		}
		for b := range 256 {
			if first.Has(byte(b)) != (strings.IndexByte(first.Set, byte(b)) >= 0) {
				t.Errorf("Has(%q) of %q", byte(b), first.Set)
			}
		}
	}
	lists(someWords, 3, check)
	for range 20000 {
		check(randomWords(r))
	}
	if again < 1000 {
		t.Errorf("just %d lists were told again", again)
	}
}
