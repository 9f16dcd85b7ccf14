package expand_test

import (
	"slices"
	"strings"
	"testing"

	"touchstone/api"
	"touchstone/expand"
)

// expansion is a list of parts, and what they must be expanded to.
type expansion struct {
	l      []api.Part
	text   string
	fields []string
}

func checkFields(t *testing.T, v expand.Vars, rows []expansion) {
	t.Helper()
	for _, x := range rows {
		if got := expand.Text(v, x.l); got != x.text {
			t.Errorf("Text(%v, %v) = %q; want %q", v, x.l, got, x.text)
		}
		if got := expand.Fields(v, x.l); !slices.Equal(got, x.fields) {
			t.Errorf("Fields(%v, %v) = %q; want %q", v, x.l, got, x.fields)
		}
		items := []api.Item{split(x.l...), unsplit(x.l...), split(x.l...)}
		want := slices.Concat(x.fields, words(x.text), x.fields)
		if got := expand.Items(v, items); !slices.Equal(got, want) {
			t.Errorf("Items(%v, %v) = %q; want %q", v, items, got, want)
		}
	}
}

// P5.1: parts that are no parameters.
func TestBytes(t *testing.T) {
	checkFields(t, expand.Vars{}, []expansion{
		{nil, "", nil},
		{parts(), "", nil},
		{parts(bare("")), "", nil},
		{parts(bare(""), bare("")), "", nil},
		{parts(quoted("")), "", words("")},
		{parts(quoted(""), quoted("")), "", words("")},
		{parts(quoted(""), bare("")), "", words("")},
		{parts(bare(""), quoted("")), "", words("")},
		{parts(bare("a")), "a", words("a")},
		{parts(bare("a"), bare("b")), "ab", words("ab")},
		{parts(bare("a"), bare(""), bare("b")), "ab", words("ab")},
		{parts(bare("a"), quoted("")), "a", words("a")},
		{parts(quoted(""), bare("a")), "a", words("a")},
		{parts(bare("a"), quoted(" b\t"), bare("c")), "a b\tc", words("a b\tc")},
		{parts(quoted(" \t\n")), " \t\n", words(" \t\n")},
		// Bytes stand as they are: a parameter's value alone is split.
		{parts(bare("a b\n")), "a b\n", words("a b\n")},
		{parts(bare(" "), bare("\t")), " \t", words(" \t")},
		{parts(bare("$x"), quoted("${x}")), "$x${x}", words("$x${x}")},
		{parts(bare("\x00\r\x80\xff")), "\x00\r\x80\xff", words("\x00\r\x80\xff")},
	})
}

// P5.1: where the value of a parameter that is not quoted is split.
func TestSplitOfAValue(t *testing.T) {
	for _, blank := range []string{" ", "\t", "\n", "  ", " \t\n ", "\n\n"} {
		for value, want := range map[string][]string{
			"": nil, "_": nil, "a": {"a"}, "_a": {"a"}, "a_": {"a"}, "_a_": {"a"}, "a_b": {"a", "b"}, "_a_b_": {"a", "b"},
			"ab": {"ab"}, "ab_cd_ef": {"ab", "cd", "ef"},
		} {
			value = strings.ReplaceAll(value, "_", blank)
			checkFields(t, with("x", value), []expansion{
				{parts(param("x")), value, want},
				{parts(param("x"), param("y")), value, want},
				{parts(bare(""), param("x"), bare("")), value, want},
				{parts(quotedParam("x")), value, words(value)},
			})
		}
	}
}

// P5.1: no byte but a blank, a tab and a line's end parts fields.
func TestEachByteOfAValue(t *testing.T) {
	for b := range 256 {
		value := "a" + string([]byte{byte(b)}) + "b"
		want := words(value)
		if b == 0x20 || b == 0x09 || b == 0x0A {
			want = words("a", "b")
		}
		checkFields(t, with("x", value), []expansion{
			{parts(param("x")), value, want},
			{parts(quotedParam("x")), value, words(value)},
			{parts(bare(value)), value, words(value)},
			{parts(quoted(value)), value, words(value)},
		})
	}
	checkFields(t, with("x", "a\r\nb\v\fc\u0085d\u00a0e\u2003f"), []expansion{
		{parts(param("x")), "a\r\nb\v\fc\u0085d\u00a0e\u2003f", words("a\r", "b\v\fc\u0085d\u00a0e\u2003f")},
	})
}

// P5.1: what stands beside a value that is split goes on with its first field, or its last one, just where no blank stands between.
func TestBesideAValue(t *testing.T) {
	v := with("all", " a b ", "blank", " \n", "end", "a b ", "none", "", "start", " a b", "tight", "a b")
	checkFields(t, v, []expansion{
		{parts(bare("c"), param("tight"), bare("d")), "ca bd", words("ca", "bd")},
		{parts(bare("c"), param("start"), bare("d")), "c a bd", words("c", "a", "bd")},
		{parts(bare("c"), param("end"), bare("d")), "ca b d", words("ca", "b", "d")},
		{parts(bare("c"), param("all"), bare("d")), "c a b d", words("c", "a", "b", "d")},
		{parts(bare("c"), param("blank"), bare("d")), "c \nd", words("c", "d")},
		{parts(bare("c"), param("none"), bare("d")), "cd", words("cd")},
		{parts(quoted(""), param("tight"), quoted("")), "a b", words("a", "b")},
		{parts(quoted(""), param("start"), quoted("")), " a b", words("", "a", "b")},
		{parts(quoted(""), param("end"), quoted("")), "a b ", words("a", "b", "")},
		{parts(quoted(""), param("all"), quoted("")), " a b ", words("", "a", "b", "")},
		{parts(quoted(""), param("blank"), quoted("")), " \n", words("", "")},
		{parts(quoted(""), param("none"), quoted("")), "", words("")},
		{parts(bare(""), param("blank"), bare("")), " \n", nil},
		{parts(param("blank"), quoted("")), " \n", words("")},
		{parts(quoted(""), param("blank")), " \n", words("")},
		{parts(param("blank"), quotedParam("none"), param("blank")), " \n \n", words("")},
		{parts(param("tight"), param("tight")), "a ba b", words("a", "ba", "b")},
		{parts(param("end"), param("tight")), "a b a b", words("a", "b", "a", "b")},
		{parts(param("tight"), param("none"), param("tight")), "a ba b", words("a", "ba", "b")},
		{parts(param("tight"), param("blank"), param("tight")), "a b \na b", words("a", "b", "a", "b")},
		{parts(quotedParam("all"), param("all"), quotedParam("all")), " a b  a b  a b ", words(" a b ", "a", "b", " a b ")},
		{parts(quotedParam("tight"), quoted(" "), param("tight")), "a b a b", words("a b a", "b")},
		{parts(quotedParam("none")), "", words("")},
		{parts(param("none"), quotedParam("y"), param("y")), "", words("")},
		{parts(param("none"), param("y")), "", nil},
	})
}

// P5.1: parameters of all sorts are split, too.
func TestSplitOfOtherParameters(t *testing.T) {
	v := expand.Vars{Args: words("a b", "", " "), Status: -12}
	checkFields(t, v, []expansion{
		{parts(param("1")), "a b", words("a", "b")},
		{parts(quotedParam("1"), param("1")), "a ba b", words("a ba", "b")},
		{parts(param("2")), "", nil},
		{parts(quotedParam("2")), "", words("")},
		{parts(param("3")), " ", nil},
		{parts(param("4")), "", nil},
		{parts(quotedParam("4")), "", words("")},
		{parts(param("#"), bare("/"), param("?")), "3/-12", words("3/-12")},
		{parts(param("1"), param("#"), param("3"), param("?"), param("1")), "a b3 -12a b", words("a", "b3", "-12a", "b")},
		{parts(param("0"), param(""), param("10")), "", nil},
	})
}

// P5.1: the fields of all items, one behind the other.
func TestItems(t *testing.T) {
	v := with("blank", " ", "x", "a  b ")
	for _, x := range []struct {
		l    []api.Item
		want []string
	}{
		{nil, nil},
		{[]api.Item{}, nil},
		{[]api.Item{split()}, nil},
		{[]api.Item{unsplit()}, words("")},
		{[]api.Item{split(), unsplit(), split(), unsplit()}, words("", "")},
		{[]api.Item{split(param("x"))}, words("a", "b")},
		{[]api.Item{unsplit(param("x"))}, words("a  b ")},
		{[]api.Item{split(bare("c")), split(param("x")), split(quoted("d"))}, words("c", "a", "b", "d")},
		{[]api.Item{unsplit(bare("c"), param("x")), unsplit(param("y")), unsplit(quoted(" "))}, words("ca  b ", "", " ")},
		{[]api.Item{split(quoted("")), split(param("y")), split(bare(""), param("blank")), split(quotedParam("y"))}, words("", "")},
		{[]api.Item{unsplit(param("x")), split(bare("c"), param("x"), bare("d")), unsplit(bare(""), param("blank"))}, words("a  b ", "ca", "b", "d", " ")},
		// No field goes on from one item to the next.
		{[]api.Item{split(bare("a")), split(bare("b")), unsplit(bare("c")), unsplit(bare("d")), split(bare("e"))}, words("a", "b", "c", "d", "e")},
	} {
		if got := expand.Items(v, x.l); !slices.Equal(got, x.want) {
			t.Errorf("Items(%v) = %q; want %q", x.l, got, x.want)
		}
	}
}

// A second way to fields: all marks of all parts in one row, cut at the gaps; a stretch that has no mark is no field.
const (
	gap     = -1 // a blank, a tab, a line's end of a value that is split
	present = -2 // of a quoted part: there is a field, though it has no bytes
)

func marksOf(v expand.Vars, l []api.Part) []int {
	var marks []int
	for _, part := range l {
		text := part.Text
		if part.Var {
			text = v.Values[slices.Index(v.Names, part.Text)]
		}
		if part.Quoted {
			marks = append(marks, present)
		}
		for _, b := range []byte(text) {
			if part.Var && !part.Quoted && strings.IndexByte("\t\n ", b) >= 0 {
				marks = append(marks, gap)
			} else {
				marks = append(marks, int(b))
			}
		}
	}
	return marks
}

func fieldsOf(marks []int) []string {
	var fields []string
	for len(marks) > 0 {
		end := slices.Index(append(marks, gap), gap)
		if end > 0 {
			var field []byte
			for _, mark := range marks[:end] {
				if mark != present {
					field = append(field, byte(mark))
				}
			}
			fields = append(fields, string(field))
		}
		marks = marks[min(end+1, len(marks)):]
	}
	return fields
}

// manyParts calls for each list of at most four parts of all sorts, beside one another in each row.
func manyParts(v expand.Vars, call func(l []api.Part)) {
	sorts := parts(bare(""), bare("c"), quoted(""), quoted("d e"))
	for _, name := range v.Names {
		sorts = append(sorts, param(name), quotedParam(name))
	}
	var longer func(l []api.Part)
	longer = func(l []api.Part) {
		call(l)
		if len(l) < 4 {
			for _, part := range sorts {
				longer(append(l[:len(l):len(l)], part))
			}
		}
	}
	longer(nil)
}

func manyValues() expand.Vars {
	return with("a", "", "b", "\n", "c", "x", "d", "x \ty", "e", " x", "f", "x\n", "g", " \x00\r\x80 ")
}

// P5.1: parts of all sorts, beside one another in each row, against the second way.
func TestAllShortLists(t *testing.T) {
	v := manyValues()
	lists := 0
	manyParts(v, func(l []api.Part) {
		lists++
		want := fieldsOf(marksOf(v, l))
		if got := expand.Fields(v, l); !slices.Equal(got, want) {
			t.Fatalf("Fields(%v) = %q; want %q", l, got, want)
		}
	})
	if lists < 100000 {
		t.Error("so many lists:", lists)
	}
}

// P5.3: quoted parts, one at least, come to one field, their text.
func TestQuoted(t *testing.T) {
	v := manyValues()
	manyParts(v, func(l []api.Part) {
		if len(l) == 0 || slices.ContainsFunc(l, func(part api.Part) bool { return !part.Quoted }) {
			return
		}
		if got := expand.Fields(v, l); !slices.Equal(got, words(expand.Text(v, l))) {
			t.Fatalf("Fields(%v) = %q", l, got)
		}
	})
}

// P5.3, P5.4: fields of parts that are not quoted.
func TestNotQuoted(t *testing.T) {
	v := manyValues()
	withoutBlanks := func(text string) string { return strings.NewReplacer(" ", "", "\t", "", "\n", "").Replace(text) }
	manyParts(v, func(l []api.Part) {
		if slices.ContainsFunc(l, func(part api.Part) bool { return part.Quoted }) {
			return
		}
		fields := expand.Fields(v, l)
		again := expand.Fields(with("all", strings.Join(fields, " ")), parts(param("all")))
		if !slices.Equal(fields, again) {
			t.Fatalf("Fields(%v) = %q, and again %q", l, fields, again)
		}
		for _, field := range fields {
			if field == "" || strings.ContainsAny(field, " \t\n") {
				t.Fatalf("Fields(%v) = %q", l, fields)
			}
		}
		if got, want := strings.Join(fields, ""), withoutBlanks(expand.Text(v, l)); got != want {
			t.Fatalf("Fields(%v) = %q; want %q in all", l, fields, want)
		}
	})
}
