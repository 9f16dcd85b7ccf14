package opts_test

import (
	"math"
	"slices"
	"strings"
	"testing"

	"touchstone/api"
	"touchstone/opts"
)

func list(words ...string) []string { return words }

// call are the arguments of Parse.
type call struct {
	known       string
	words       []string
	least, most int
}

func (c call) on() (opts.Opts, api.Errno) { return opts.Parse(c.known, c.words, c.least, c.most) }

func same(a, b opts.Opts) bool { return a.Set == b.Set && slices.Equal(a.Operands, b.Operands) }

func (c call) check(t *testing.T, set string, operands ...string) {
	t.Helper()
	got, e := c.on()
	if want := (opts.Opts{Set: set, Operands: operands}); e != api.OK || !same(got, want) {
		t.Errorf("Parse(%q, %q, %d, %d) = %q, %d; want %q", c.known, c.words, c.least, c.most, got, e, want)
	}
}

// refused checks the error, and that all else is zero beside it.
func (c call) refused(t *testing.T, want api.Errno) {
	t.Helper()
	got, e := c.on()
	if e != want || got.Set != "" || len(got.Operands) != 0 {
		t.Errorf("Parse(%q, %q, %d, %d) = %q, %d; want nothing, %d", c.known, c.words, c.least, c.most, got, e, want)
	}
}

// free is a call that allows whatever number of operands.
func free(known string, words ...string) call { return call{known, words, 0, math.MaxInt} }

// row is a call's words, and what they must come to where r and f are known.
type row struct {
	words    []string
	set      string
	operands []string
}

func checkRows(t *testing.T, rows ...row) {
	t.Helper()
	for _, r := range rows {
		free("rf", r.words...).check(t, r.set, r.operands...)
	}
}

// P11.1: the chapter's examples.
func TestExamples(t *testing.T) {
	call{"rf", list("-rf", "x", "-r"), 0, 9}.check(t, "fr", "x", "-r")
	call{"rf", list("-f", "--", "-r"), 0, 9}.check(t, "f", "-r")
	call{"rf", list("-x"), 0, 9}.refused(t, api.ErrOption)
	call{"rf", list("--f"), 0, 9}.refused(t, api.ErrOption)
	call{"rf", list("-"), 0, 9}.check(t, "", "-")
	call{"p", nil, 1, 9}.refused(t, api.ErrOption)
}

// P11.1: words of one letter and of several.
func TestOptions(t *testing.T) {
	checkRows(t,
		row{list("-r"), "r", nil},
		row{list("-r", "a"), "r", list("a")},
		row{list("-r", "-f", "a"), "fr", list("a")},
		row{list("-rf"), "fr", nil},
		row{list("-fr", "a", "b"), "fr", list("a", "b")},
		row{list("-rr"), "r", nil},
		row{list("-r", "-r"), "r", nil},
		row{list("-rfr", "-frf", "-f"), "fr", nil},
		row{list("-" + strings.Repeat("rf", 1000)), "fr", nil},
	)
	const all = "abcdefghijklmnopqrstuvwxyzABCDEFGHIJKLMNOPQRSTUVWXYZ"
	for i := range len(all) {
		letter := all[i : i+1]
		free(all, "-"+letter, letter).check(t, letter, letter)
		free(letter, "-"+letter).check(t, letter)
		free(strings.ReplaceAll(all, letter, ""), "-"+letter).refused(t, api.ErrOption)
	}
	free(all, "-"+all).check(t, "ABCDEFGHIJKLMNOPQRSTUVWXYZabcdefghijklmnopqrstuvwxyz")
	free("rR", "-R").check(t, "R")
	free("rR", "-rR").check(t, "Rr")
	free("r", "-R").refused(t, api.ErrOption)
}

// P11.1: a word that is no option ends the options: what is behind it is as it is.
func TestOperands(t *testing.T) {
	checkRows(t,
		row{list("a"), "", list("a")},
		row{list("a", "-r"), "", list("a", "-r")},
		row{list("a", "-x", "--", "--f", "-"), "", list("a", "-x", "--", "--f", "-")},
		row{list("r", "f"), "", list("r", "f")},
		row{list("a-r", "-r"), "", list("a-r", "-r")},
		row{list(" -r"), "", list(" -r")},
		row{list("\x00-r"), "", list("\x00-r")},
		row{list("−r"), "", list("−r")},
		row{list("\xffr", "-\xff"), "", list("\xffr", "-\xff")},
		row{list("-r", "a", "a", "-f"), "r", list("a", "a", "-f")},
	)
}

// P11.1: a - alone, and the word of no bytes, are operands.
func TestShortWords(t *testing.T) {
	checkRows(t,
		row{list("-"), "", list("-")},
		row{list("-", "-r"), "", list("-", "-r")},
		row{list("-r", "-", "-f", "--"), "r", list("-", "-f", "--")},
		row{list("-", "-"), "", list("-", "-")},
		row{list(""), "", list("")},
		row{list("", "-r", ""), "", list("", "-r", "")},
		row{list("-r", "", "-f"), "r", list("", "-f")},
	)
}

// P11.1: -- ends the options, once.
func TestEndOfOptions(t *testing.T) {
	checkRows(t,
		row{list("--"), "", nil},
		row{list("--", "-r"), "", list("-r")},
		row{list("--", "--"), "", list("--")},
		row{list("--", "--", "-f"), "", list("--", "-f")},
		row{list("-r", "--", "-x", "--x", "-", ""), "r", list("-x", "--x", "-", "")},
		row{list("-r", "--"), "r", nil},
		row{list("a", "--"), "", list("a", "--")},
		row{list("-", "--", "a"), "", list("-", "--", "a")},
		row{list("", "--", "a"), "", list("", "--", "a")},
	)
}

// P11.1: no words at all.
func TestNoWords(t *testing.T) {
	for _, words := range [][]string{nil, {}} {
		for _, known := range list("", "rf") {
			call{known, words, 0, 0}.check(t, "")
			call{known, words, 0, 9}.check(t, "")
			call{known, words, 1, 9}.refused(t, api.ErrOption)
		}
	}
}

// P11.1: an option that is not known, wherever it stands ahead of the operands.
func TestUnknownOptions(t *testing.T) {
	for _, words := range [][]string{
		{"-x"}, {"-rx"}, {"-xr"}, {"-rxf"}, {"-r", "-x"}, {"-x", "-r"}, {"-x", "a"}, {"-x", "--"}, {"-r", "-x", "--", "a"}, {"-F"}, {"-rR"},
		{"--f"}, {"--r", "a"}, {"--help"}, {"---"}, {"----"}, {"--="}, {"-- "}, {"--\x00"}, {"--\xff"}, {"-r", "--f"}, {"--f", "--"},
		{"-r-"}, {"-r--"}, {"-r-f"}, {"-r "}, {"- r"}, {"-r\n"}, {"-r", "-r="},
	} {
		free("rf", words...).refused(t, api.ErrOption)
	}
	for _, known := range list("", "a", "xyz") {
		free(known, "-r").refused(t, api.ErrOption)
	}
}

// isLetter is asked by the chapter's words: a to z, A to Z.
func isLetter(b int) bool { return b >= 'a' && b <= 'z' || b >= 'A' && b <= 'Z' }

// P11.1: each byte as an option, by itself and beside letters that are known.
func TestEveryByteAsOption(t *testing.T) {
	for b := range 256 {
		text := string([]byte{byte(b)})
		for _, words := range [][]string{{"-" + text + "r"}, {"-r" + text}, {"-r" + text + "f"}, {"-f", "-rf" + text, "a"}} {
			if b != 'r' && b != 'f' {
				free("rf", words...).refused(t, api.ErrOption)
			}
			free("rf", append(list("--"), words...)...).check(t, "", words...)
		}
		switch {
		case b == '-':
			free("rf", "-"+text, "a").check(t, "", "a")
		case b == 'r' || b == 'f':
			free("rf", "-"+text, "a").check(t, text, "a")
		default:
			free("rf", "-"+text, "a").refused(t, api.ErrOption)
		}
		if b != '-' {
			free("rf", text, "-r").check(t, "", text, "-r")
			free("rf", text+"-r").check(t, "", text+"-r")
		}
	}
}

// P11.1: letters are known, none or many, whatever their row.
func TestKnownLetters(t *testing.T) {
	for _, known := range list("rf", "fr", "rrf", "frfr", "abcdefr", "fRrF") {
		free(known, "-rf", "a").check(t, "fr", "a")
		free(known, "-fr").check(t, "fr")
		free(known, "-r").check(t, "r")
		free(known, "-rx").refused(t, api.ErrOption)
	}
	free("", "a").check(t, "", "a")
	free("", "-").check(t, "", "-")
	free("", "--", "-r").check(t, "", "-r")
	free("zazZA", "-Zaz").check(t, "Zaz")
	free("aB", "-b").refused(t, api.ErrOption)
	free("aB", "-A").refused(t, api.ErrOption)
}

// P11.1: a byte among the known ones that is no letter, whatever the words are.
func TestEveryByteAsKnown(t *testing.T) {
	for b := range 256 {
		text := string([]byte{byte(b)})
		for _, known := range list(text, text+"rf", "rf"+text, "r"+text+"f", text+text) {
			if isLetter(b) {
				free(known).check(t, "")
				free(known, "-"+text, "a").check(t, text, "a")
				continue
			}
			for _, words := range [][]string{nil, {"a"}, {"--", "a"}, {"-" + text}, {"-r"}} {
				free(known, words...).refused(t, api.ErrArg)
			}
		}
	}
	for _, known := range list("`", "{", "@", "[", "é", "a b", "r,f", "-rf", "rf\x00") {
		free(known, "a").refused(t, api.ErrArg)
	}
}

// P11.1: how many operands there may be.
func TestNumbersOfOperands(t *testing.T) {
	operands := list("a", "-r", "--")
	for _, ahead := range []row{{nil, "", nil}, {list("-r"), "r", nil}, {list("-rf", "-f"), "fr", nil}, {list("--"), "", nil}, {list("-r", "--"), "r", nil}} {
		for n := range len(operands) + 1 {
			for least := range 5 {
				for most := least; most < 5; most++ {
					c := call{"rf", slices.Concat(ahead.words, operands[:n]), least, most}
					if least <= n && n <= most {
						c.check(t, ahead.set, operands[:n]...)
					} else {
						c.refused(t, api.ErrOption)
					}
				}
			}
		}
	}
}

// P11.1: numbers that may not be, and the smallest and the greatest ones that there are.
func TestLeastAndMost(t *testing.T) {
	for _, x := range []struct {
		least, most int
		want        api.Errno
	}{
		{-1, 0, api.ErrArg}, {-1, 9, api.ErrArg}, {-1, -1, api.ErrArg}, {0, -1, api.ErrArg}, {-2, -1, api.ErrArg},
		{1, 0, api.ErrArg}, {2, 1, api.ErrArg}, {9, 8, api.ErrArg}, {9, 0, api.ErrArg},
		{math.MinInt, math.MaxInt, api.ErrArg}, {math.MinInt, math.MinInt, api.ErrArg}, {0, math.MinInt, api.ErrArg},
		{math.MaxInt, math.MinInt, api.ErrArg}, {math.MaxInt, math.MaxInt - 1, api.ErrArg}, {math.MaxInt, 0, api.ErrArg}, {-1, math.MaxInt, api.ErrArg},
		{0, math.MaxInt, api.OK}, {1, math.MaxInt, api.OK}, {1, 1, api.OK}, {0, 1, api.OK},
		{0, 0, api.ErrOption}, {2, 2, api.ErrOption}, {2, math.MaxInt, api.ErrOption}, {math.MaxInt, math.MaxInt, api.ErrOption}, {math.MaxInt - 1, math.MaxInt, api.ErrOption},
	} {
		c := call{"rf", list("-r", "a"), x.least, x.most}
		if x.want == api.OK {
			c.check(t, "r", "a")
		} else {
			c.refused(t, x.want)
		}
	}
	call{"rf", nil, 0, 0}.check(t, "")
	call{"rf", list("-r"), 0, 0}.check(t, "r")
	call{"rf", list("--"), 0, 0}.check(t, "")
}

// P11.1: of several errors ErrArg is told.
func TestRowOfErrors(t *testing.T) {
	for _, words := range [][]string{{"-x"}, {"--f"}, {"a", "b", "c"}, {}} {
		for _, numbers := range [][2]int{{1, 2}, {-1, 2}, {1, -1}, {2, 1}} {
			c := call{"r-f", words, numbers[0], numbers[1]}
			c.refused(t, api.ErrArg)
			c.known = "rf"
			if numbers[0] == 1 && numbers[1] == 2 {
				c.refused(t, api.ErrOption)
			} else {
				c.refused(t, api.ErrArg)
			}
		}
	}
	call{"rf", list("-x", "a", "b", "c"), 1, 2}.refused(t, api.ErrOption)
}

// P11.1: Has of each byte, of Sets that Parse answered.
func TestHas(t *testing.T) {
	for _, x := range []struct {
		words []string
		set   string
	}{
		{nil, ""}, {list("-r"), "r"}, {list("-rf", "-R"), "rfR"}, {list("-f", "--", "-r"), "f"}, {list("r", "-f"), ""}, {list("-az", "-AZ"), "azAZ"},
	} {
		o, e := free("rfRazAZ", x.words...).on()
		for b := range 256 {
			if want := strings.Contains(x.set, string([]byte{byte(b)})); e != api.OK || o.Has(byte(b)) != want {
				t.Errorf("%q: Has(%q) = %t; want %t", x.words, byte(b), !want, want)
			}
		}
	}
	refused, _ := free("rf", "-r", "-x").on()
	if refused.Has('r') || refused.Has('x') {
		t.Errorf("of words that are refused: %q", refused)
	}
}

// P11.1, R1: Has of each byte, of Sets that Parse did not answer.
func TestHasOfAnySet(t *testing.T) {
	every := make([]byte, 256)
	for b := range every {
		every[b] = byte(b)
	}
	for _, set := range list("", "rf", "fr", "rr", "r f", "-", "\x00", "a\x00b", "\xff", "é", "\xed\xa0\x80", string(every), string(every[:128]), string(every[128:])) {
		o := opts.Opts{Set: set, Operands: list("x", "-y")}
		for b := range 256 {
			if want := slices.Contains([]byte(set), byte(b)); o.Has(byte(b)) != want {
				t.Errorf("a Set %q: Has(%q) = %t", set, byte(b), !want)
			}
		}
		if o.Set != set || !slices.Equal(o.Operands, list("x", "-y")) {
			t.Errorf("Has made of it %q", o)
		}
	}
	if (opts.Opts{}).Has(0) || (opts.Opts{}).Has('a') {
		t.Error("no Set has a letter")
	}
}
