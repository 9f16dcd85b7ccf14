package word_test

import (
	"regexp"
	"slices"
	"strings"
	"testing"
	"unsafe"

	"touchstone/api"
	"touchstone/lex"
	"touchstone/word"
)

func bare(text string) api.Part        { return api.Part{Text: text} }
func quoted(text string) api.Part      { return api.Part{Text: text, Quoted: true} }
func param(name string) api.Part       { return api.Part{Var: true, Text: name} }
func quotedParam(name string) api.Part { return api.Part{Var: true, Text: name, Quoted: true} }

func plainToken(text string, at int) api.Token {
	return api.Token{Kind: api.Plain, Text: text, At: at}
}

func wordOf(parts ...api.Part) api.Word { return api.Word{Parts: parts} }

// row is a token's text, and the parts that it must be read into.
type row struct {
	text string
	want []api.Part
}

func checkRows(t *testing.T, rows []row) {
	t.Helper()
	for _, r := range rows {
		for _, start := range []int{0, 100} {
			got, at, e := word.Of(plainToken(r.text, start))
			if e != api.OK || at != 0 || got.At != start || !slices.Equal(got.Parts, r.want) {
				t.Errorf("Of(%.90q at %d) = %v, %d, %d; want %v", r.text, start, got, at, e, r.want)
			}
		}
	}
}

// fault is a text that is wrong, and at which of its bytes.
type fault struct {
	text string
	at   int
	e    api.Errno
}

func checkFaults(t *testing.T, faults []fault) {
	t.Helper()
	for _, f := range faults {
		for _, start := range []int{0, 100} {
			got, at, e := word.Of(plainToken(f.text, start))
			if e != f.e || at != start+f.at || got.At != 0 || len(got.Parts) != 0 {
				t.Errorf("Of(%.90q at %d) = %v, %d, %d; want %d at %d", f.text, start, got, at, e, f.e, start+f.at)
			}
		}
	}
}

// P2.1.
func TestOrdinaryWords(t *testing.T) {
	checkRows(t, []row{
		{"mkdir", []api.Part{bare("mkdir")}},
		{"-p", []api.Part{bare("-p")}},
		{"/usr/lib/a.d", []api.Part{bare("/usr/lib/a.d")}},
		{"a'b c'\"$x\"", []api.Part{bare("a"), quoted("b c"), quotedParam("x")}},
		{"${x}y$1", []api.Part{param("x"), bare("y"), param("1")}},
		{"a$", []api.Part{bare("a"), quoted("$")}},
		{"x=1", []api.Part{bare("x=1")}},
		{"x=\"$1/$name\"/b", []api.Part{bare("x="), quotedParam("1"), quoted("/"), quotedParam("name"), bare("/b")}},
		{"a\\ b", []api.Part{bare("a"), quoted(" "), bare("b")}},
		{"$x$y", []api.Part{param("x"), param("y")}},
		{"\"$x$y\"", []api.Part{quotedParam("x"), quotedParam("y")}},
		{"\"$x\"$y", []api.Part{quotedParam("x"), param("y")}},
		{"!", []api.Part{bare("!")}},
		{"{a,b}]^=+%:@", []api.Part{bare("{a,b}]^=+%:@")}},
		{"\xff\xc3\xa9", []api.Part{bare("\xff\xc3\xa9")}},
	})
}

// P2.1: bytes of one kind that follow one another are one part.
func TestBytesOfOneKind(t *testing.T) {
	checkRows(t, []row{
		{"'a'\"b\"\\c", []api.Part{quoted("abc")}},
		{"'a'b'c'", []api.Part{quoted("a"), bare("b"), quoted("c")}},
		{"a\\\nb", []api.Part{bare("ab")}},
		{"'a'\\\n'b'", []api.Part{quoted("ab")}},
		{"\"a$\"'b'", []api.Part{quoted("a$b")}},
		{"\"a$x\"'b'\\c", []api.Part{quoted("a"), quotedParam("x"), quoted("bc")}},
		{"$'a'", []api.Part{quoted("$a")}},
		{"$\"a\"", []api.Part{quoted("$a")}},
	})
}

// P2.1: in single quotes each byte stands for itself.
func TestSingleQuotes(t *testing.T) {
	checkRows(t, []row{
		{"'a b'", []api.Part{quoted("a b")}},
		{"'$x ${y} `\\ \" $( * ? [ ~ # ; & | < > ( )'", []api.Part{quoted("$x ${y} `\\ \" $( * ? [ ~ # ; & | < > ( )")}},
		{"'\\'", []api.Part{quoted("\\")}},
		{"'\\\n'", []api.Part{quoted("\\\n")}},
		{"'a\n\tb'", []api.Part{quoted("a\n\tb")}},
		{"'#'", []api.Part{quoted("#")}},
		{"'~'", []api.Part{quoted("~")}},
	})
}

// P2.1: in double quotes a backslash and a $ mean something, and all else but the backtick stands for itself.
func TestDoubleQuotes(t *testing.T) {
	checkRows(t, []row{
		{"\"a b\"", []api.Part{quoted("a b")}},
		{"\"' * ? [ ~ # ; & | < > ( )\n\t\"", []api.Part{quoted("' * ? [ ~ # ; & | < > ( )\n\t")}},
		{"\"#\"", []api.Part{quoted("#")}},
		{"\"~\"", []api.Part{quoted("~")}},
		{"\"a\\\nb\"", []api.Part{quoted("ab")}},
		{"\"a\\\"b\"", []api.Part{quoted("a\"b")}},
		{"\"\\\\\"", []api.Part{quoted("\\")}},
		{"\"\\\\\n\"", []api.Part{quoted("\\\n")}},
		{"\"\\\\$x\"", []api.Part{quoted("\\"), quotedParam("x")}},
		{"\"\\a\\'\\*\"", []api.Part{quoted("\\a\\'\\*")}},
		{"\"\\$(\\`\"", []api.Part{quoted("$(`")}},
		{"\"$x\\\ny\"", []api.Part{quotedParam("x"), quoted("y")}},
	})
}

// P2.1: a backslash ahead of each byte, outside of quotes and within double ones.
func TestBackslashAheadOfEveryByte(t *testing.T) {
	for b := 1; b < 256; b++ {
		behind := string([]byte{byte(b)})
		within := "\\" + behind
		switch behind {
		case "$", "\"", "`", "\\":
			within = behind
		case "\n":
			continue
		}
		checkRows(t, []row{
			{"\\" + behind, []api.Part{quoted(behind)}},
			{"a\\" + behind + "b", []api.Part{bare("a"), quoted(behind), bare("b")}},
			{"\"\\" + behind + "\"", []api.Part{quoted(within)}},
			{"\"a\\" + behind + "b\"", []api.Part{quoted("a" + within + "b")}},
		})
	}
}

// P2.1: a backslash ahead of a line's end stands for nothing.
func TestBackslashAheadOfALinesEnd(t *testing.T) {
	checkRows(t, []row{
		{"\\\na", []api.Part{bare("a")}},
		{"a\\\n", []api.Part{bare("a")}},
		{"a\\\n\\\nb", []api.Part{bare("ab")}},
		{"$x\\\ny", []api.Part{param("x"), bare("y")}},
		{"$\\\nx", []api.Part{quoted("$"), bare("x")}},
		{"\\\n''", []api.Part{quoted("")}},
		{"\\\n$x", []api.Part{param("x")}},
	})
	checkFaults(t, []fault{
		{"\\\n", 0, api.ErrSyntax}, {"\\\n\\\n\\\n", 0, api.ErrSyntax},
		{"\\\n#", 2, api.ErrSyntax}, {"\\\n~", 2, api.ErrNever}, {"\\\n\\", 2, api.ErrSyntax}, {"\\\n'", 2, api.ErrSyntax},
	})
}

// P2.1: a pair of quotes with nothing in it, alone and beside what is quoted or not.
func TestPairsOfQuotesWithNothing(t *testing.T) {
	for _, pair := range []string{"''", "\"\"", "''\"\"", "\"\"\\\n''", "\"\\\n\""} {
		checkRows(t, []row{
			{pair, []api.Part{quoted("")}},
			{"a" + pair, []api.Part{bare("a"), quoted("")}},
			{pair + "a", []api.Part{quoted(""), bare("a")}},
			{"a" + pair + "b", []api.Part{bare("a"), quoted(""), bare("b")}},
			{"$x" + pair, []api.Part{param("x"), quoted("")}},
			{pair + "$x", []api.Part{quoted(""), param("x")}},
			{"$x" + pair + "$y", []api.Part{param("x"), quoted(""), param("y")}},
			{pair + "'a'", []api.Part{quoted("a")}},
			{"\"a\"" + pair, []api.Part{quoted("a")}},
			{"'a'" + pair + "\"b\"", []api.Part{quoted("ab")}},
			{pair + "\\a", []api.Part{quoted("a")}},
			{"\\a" + pair, []api.Part{quoted("a")}},
			{pair + "\"$x\"", []api.Part{quotedParam("x")}},
			{"\"$x\"" + pair, []api.Part{quotedParam("x")}},
			{"\"$x\"" + pair + "\"$y\"", []api.Part{quotedParam("x"), quotedParam("y")}},
			{"\"$x\"" + pair + "$y", []api.Part{quotedParam("x"), param("y")}},
			{"$x" + pair + "\"$y\"", []api.Part{param("x"), quotedParam("y")}},
			{"\"$x\"" + pair + "a", []api.Part{quotedParam("x"), bare("a")}},
			{"a" + pair + "\"$x\"", []api.Part{bare("a"), quotedParam("x")}},
			{"$" + pair, []api.Part{quoted("$")}},
			{pair + "$", []api.Part{quoted("$")}},
			{pair + "a" + pair, []api.Part{quoted(""), bare("a"), quoted("")}},
			{pair + "#", []api.Part{quoted(""), bare("#")}},
			{pair + "~", []api.Part{quoted(""), bare("~")}},
		})
	}
}

// P2.1: # and ~ stand for themselves where a part stands ahead of them.
func TestRemarkAndHome(t *testing.T) {
	for _, b := range []string{"#", "~"} {
		checkRows(t, []row{
			{"a" + b, []api.Part{bare("a" + b)}},
			{"a" + b + b + "c", []api.Part{bare("a" + b + b + "c")}},
			{"$x" + b, []api.Part{param("x"), bare(b)}},
			{"\"$x\"" + b, []api.Part{quotedParam("x"), bare(b)}},
			{"'a'" + b, []api.Part{quoted("a"), bare(b)}},
			{"$'" + b + "'", []api.Part{quoted("$" + b)}},
			{"\\" + b + b, []api.Part{quoted(b), bare(b)}},
			{"x=" + b, []api.Part{bare("x=" + b)}},
			{"\"" + b + "\"", []api.Part{quoted(b)}},
		})
	}
	checkFaults(t, []fault{{"#", 0, api.ErrSyntax}, {"#a", 0, api.ErrSyntax}, {"~", 0, api.ErrNever}, {"~/a", 0, api.ErrNever}})
}

// P2.1: what may stand behind a $, by each byte, outside of quotes, within double ones and in braces.
func TestDollarAheadOfEveryByte(t *testing.T) {
	const nameFirst = "abcdefghijklmnopqrstuvwxyzABCDEFGHIJKLMNOPQRSTUVWXYZ_"
	for b := range 256 {
		behind := string([]byte{byte(b)})
		text, within, braces := "$"+behind, "\"$"+behind+"\"", "${"+behind+"}"
		if strings.Contains(nameFirst+"123456789#?", behind) {
			checkRows(t, []row{
				{text, []api.Part{param(behind)}}, {within, []api.Part{quotedParam(behind)}},
				{braces, []api.Part{param(behind)}}, {"\"" + braces + "\"", []api.Part{quotedParam(behind)}},
			})
			continue
		}
		checkFaults(t, []fault{{braces, 0, api.ErrNever}, {"a\"" + braces + "\"", 2, api.ErrNever}})
		switch {
		case strings.Contains("0*@$!-({", behind):
			checkFaults(t, []fault{{text, 0, api.ErrNever}, {within, 1, api.ErrNever}, {"a" + text + "b", 1, api.ErrNever}})
		case behind == "\x00":
			checkFaults(t, []fault{{text, 1, api.ErrSyntax}, {within, 2, api.ErrSyntax}})
		case strings.Contains(" \t\n;&|<>()", behind):
			checkFaults(t, []fault{{text, 1, api.ErrSyntax}})
			checkRows(t, []row{{within, []api.Part{quoted("$" + behind)}}})
		case strings.Contains("[`", behind):
			checkFaults(t, []fault{{text, 1, api.ErrNever}})
		case !strings.Contains("'\"\\", behind):
			checkRows(t, []row{{text, []api.Part{quoted("$"), bare(behind)}}, {within, []api.Part{quoted("$" + behind)}}})
		}
	}
	checkRows(t, []row{
		{"$", []api.Part{quoted("$")}},
		{"\"$\"", []api.Part{quoted("$")}},
		{"\"a$\"b", []api.Part{quoted("a$"), bare("b")}},
		{"$/$", []api.Part{quoted("$"), bare("/"), quoted("$")}},
		{"$\\$", []api.Part{quoted("$$")}},
		{"$''$", []api.Part{quoted("$$")}},
	})
}

// P2.1: a name is as long as it can be; 1 to 9, # and ? are one byte each.
func TestParameters(t *testing.T) {
	checkRows(t, []row{
		{"$name_9Z-", []api.Part{param("name_9Z"), bare("-")}},
		{"$_", []api.Part{param("_")}},
		{"$x.y", []api.Part{param("x"), bare(".y")}},
		{"$x\xc3\xa9", []api.Part{param("x"), bare("\xc3\xa9")}},
		{"$10", []api.Part{param("1"), bare("0")}},
		{"$1x", []api.Part{param("1"), bare("x")}},
		{"$##", []api.Part{param("#"), bare("#")}},
		{"$#$?$9", []api.Part{param("#"), param("?"), param("9")}},
		{"${x}{y}", []api.Part{param("x"), bare("{y}")}},
		{"$x{y}", []api.Part{param("x"), bare("{y}")}},
		{"${x}}", []api.Part{param("x"), bare("}")}},
		{"\"${x}y$?z\"", []api.Part{quotedParam("x"), quoted("y"), quotedParam("?"), quoted("z")}},
	})
	checkFaults(t, []fault{
		{"${", 0, api.ErrNever}, {"${}", 0, api.ErrNever}, {"${x", 0, api.ErrNever}, {"a${x", 1, api.ErrNever},
		{"${x:-y}", 0, api.ErrNever}, {"${x-}", 0, api.ErrNever}, {"${#x}", 0, api.ErrNever}, {"${10}", 0, api.ErrNever},
		{"${ x}", 0, api.ErrNever}, {"${x }", 0, api.ErrNever}, {"${1a}", 0, api.ErrNever}, {"${??}", 0, api.ErrNever},
		{"${x\x00}", 0, api.ErrNever}, {"${\\\nx}", 0, api.ErrNever}, {"a\"b${x\"", 3, api.ErrNever}, {"${'x'}", 0, api.ErrNever},
	})
}

// P2.1: a name of MaxName bytes, and of one more.
func TestLongNames(t *testing.T) {
	full := strings.Repeat("n", api.MaxName-1) + "9"
	checkRows(t, []row{
		{"$" + full, []api.Part{param(full)}},
		{"${" + full + "}", []api.Part{param(full)}},
		{"$" + full + "a", []api.Part{param(full), bare("a")}},
		{"$" + full + "0_", []api.Part{param(full), bare("0_")}},
		{"\"$" + full + "a\"", []api.Part{quotedParam(full), quoted("a")}},
		{"\"${" + full + "}\"", []api.Part{quotedParam(full)}},
		{"$" + full + full, []api.Part{param(full), bare(full)}},
	})
	checkFaults(t, []fault{{"${" + full + "a}", 0, api.ErrNever}, {"x\"${" + full + "a}\"", 2, api.ErrNever}})
	if !word.Param(full) || word.Param(full+"a") {
		t.Errorf("Param of %d bytes %v, of one more %v", len(full), word.Param(full), word.Param(full+"a"))
	}
	for _, part := range []api.Part{param(full + "a"), quotedParam(full + "a")} {
		if word.May(wordOf(part)) {
			t.Errorf("May of %v", part)
		}
	}
	if !word.May(wordOf(param(full), quotedParam(full))) {
		t.Error("a parameter of MaxName bytes may not be")
	}
}

// P2.1: which bytes are wrong outside of quotes, and which are not supported.
func TestEveryByte(t *testing.T) {
	for b := range 256 {
		text := string([]byte{byte(b)})
		switch {
		case strings.Contains("\x00 \t\n;&|<>()\\'\"", text):
			checkFaults(t, []fault{{text, 0, api.ErrSyntax}, {"a" + text, 1, api.ErrSyntax}, {"$x''" + text, 4, api.ErrSyntax}})
		case strings.Contains("*?[`", text):
			checkFaults(t, []fault{{text, 0, api.ErrNever}, {"a" + text, 1, api.ErrNever}, {"'a'\\\n" + text + "b", 5, api.ErrNever}})
		case !strings.Contains("#~$", text):
			checkRows(t, []row{{text, []api.Part{bare(text)}}, {"a" + text + "b", []api.Part{bare("a" + text + "b")}}})
		}
		if b != 0 && text != "'" {
			checkRows(t, []row{{"'" + text + "'", []api.Part{quoted(text)}}})
		}
		if b != 0 && !strings.Contains("$\"`\\", text) {
			checkRows(t, []row{{"\"" + text + "\"", []api.Part{quoted(text)}}})
		}
	}
}

// P2.1: a byte 00 is wrong wherever it is.
func TestZeroBytes(t *testing.T) {
	checkFaults(t, []fault{
		{"\x00", 0, api.ErrSyntax}, {"a\x00", 1, api.ErrSyntax}, {"'\x00'", 1, api.ErrSyntax}, {"\"a\x00\"", 2, api.ErrSyntax},
		{"\\\x00", 1, api.ErrSyntax}, {"\"\\\x00\"", 2, api.ErrSyntax}, {"$x\x00", 2, api.ErrSyntax}, {"\\\n\x00", 2, api.ErrSyntax},
	})
	for _, w := range []api.Word{wordOf(bare("a\x00")), wordOf(quoted("\x00a")), wordOf(param("a\x00"))} {
		if word.May(w) {
			t.Errorf("May(%v)", w)
		}
	}
}

// P2.1: of several faults the first one from the left is told; that a quote is not closed comes behind all others.
func TestWhichFaultIsTold(t *testing.T) {
	checkFaults(t, []fault{
		{"'a", 0, api.ErrSyntax}, {"'", 0, api.ErrSyntax}, {"\"", 0, api.ErrSyntax}, {"a\"b", 1, api.ErrSyntax},
		{"'a'b'c", 4, api.ErrSyntax}, {"'a'\"b'", 3, api.ErrSyntax}, {"\"a\"'b\"", 3, api.ErrSyntax},
		{"\"a\\\"", 0, api.ErrSyntax}, {"\"a\\", 0, api.ErrSyntax}, {"'a\\", 0, api.ErrSyntax}, {"\"\\\n", 0, api.ErrSyntax},
		{"\\", 0, api.ErrSyntax}, {"a\\", 1, api.ErrSyntax}, {"\\\\\\", 2, api.ErrSyntax},
		{"$(", 0, api.ErrNever}, {"a*", 1, api.ErrNever}, {"$((1))", 0, api.ErrNever}, {"\"a`b`\"", 2, api.ErrNever},
		{"* ", 0, api.ErrNever}, {" *", 0, api.ErrSyntax}, {"a;*", 1, api.ErrSyntax}, {"a*;", 1, api.ErrNever},
		{"'\x00", 1, api.ErrSyntax}, {"\"$@", 1, api.ErrNever}, {"\"a`", 2, api.ErrNever}, {"\"`\x00", 1, api.ErrNever},
		{"\"\x00`", 1, api.ErrSyntax}, {"*'", 0, api.ErrNever}, {"'*", 0, api.ErrSyntax}, {"'a'?\"", 3, api.ErrNever},
		{"$\x00$(", 1, api.ErrSyntax}, {"$(\x00", 0, api.ErrNever}, {"\"$x$\x00", 4, api.ErrSyntax}, {"a#~[", 3, api.ErrNever},
	})
}

// P2.1: a token that is no Plain one, or has no bytes, is told at 0, wherever it stands.
func TestTokensThatAreNoWords(t *testing.T) {
	for _, token := range []api.Token{
		{}, {At: 7}, {Kind: api.Op, Text: ";", At: 7}, {Kind: api.Newline, Text: "\n", At: 7}, {Kind: api.Op, Text: "a", At: 7},
		{Kind: api.Plain, At: 7}, {Text: "a", At: 7}, {Kind: 4, Text: "a", At: 7}, {Kind: 255, Text: "$(", At: 7},
	} {
		got, at, e := word.Of(token)
		if e != api.ErrForm || at != 0 || got.At != 0 || len(got.Parts) != 0 {
			t.Errorf("Of(%v) = %v, %d, %d", token, got, at, e)
		}
	}
}

// R1: places that no script has.
func TestPlacesThatAreNone(t *testing.T) {
	for _, at := range []int{-1, -1 << 63, 1<<63 - 1} {
		got, _, e := word.Of(plainToken("a'b'", at))
		if e != api.OK || got.At != at || len(got.Parts) != 2 {
			t.Errorf("Of at %d = %v, %d", at, got, e)
		}
		if _, _, e := word.Of(plainToken("a'b", at)); e != api.ErrSyntax {
			t.Errorf("Of at %d: %d", at, e)
		}
	}
}

// texts hands on every text over some bytes that has at most so many of them.
func texts(alphabet string, most int, yield func(string)) {
	yield("")
	if most == 0 {
		return
	}
	for i := range len(alphabet) {
		texts(alphabet, most-1, func(rest string) { yield(alphabet[i:i+1] + rest) })
	}
}

// The chapter's sentences a second time, as patterns of what a text's next piece is.
var (
	paramPiece  = regexp.MustCompile(`^\$(?:([A-Za-z_][A-Za-z_0-9]{0,63}|[1-9#?])|\{([A-Za-z_][A-Za-z_0-9]{0,63}|[1-9#?])\})`)
	neverDollar = regexp.MustCompile(`^\$[0*@$!\-({]`)
	nothing     = regexp.MustCompile(`^\\\n`)
	pairDouble  = regexp.MustCompile(`^"((?:[^"\\]|\\(?s:.))*)"`)
	pairSingle  = regexp.MustCompile(`^'([^']*)'`)
	escapeOut   = regexp.MustCompile(`^\\([^\n\x00])`)
	escapeIn    = regexp.MustCompile("^\\\\([$\"`\\\\])")
	wrongOut    = regexp.MustCompile(`^(?:[ \t\n;&|<>()]|\\\z)`)
	neverOut    = regexp.MustCompile("^[*?[`]")
)

// piecesIn are the pieces within double quotes, and how many bytes ahead of what is wrong there, if something is.
func piecesIn(text string) ([]api.Part, int, api.Errno) {
	var out []api.Part
	for at := 0; at < len(text); {
		rest := text[at:]
		if m := nothing.FindString(rest); m != "" {
			at += len(m)
		} else if m := escapeIn.FindStringSubmatch(rest); m != nil {
			out, at = append(out, quoted(m[1])), at+2
		} else if m := paramPiece.FindStringSubmatch(rest); m != nil {
			out, at = append(out, quotedParam(m[1]+m[2])), at+len(m[0])
		} else if neverDollar.MatchString(rest) || rest[0] == '`' {
			return nil, at, api.ErrNever
		} else if rest[0] == 0 {
			return nil, at, api.ErrSyntax
		} else {
			out, at = append(out, quoted(rest[:1])), at+1
		}
	}
	return out, 0, api.OK
}

// quotedPieces are the pieces of the quotes by which a text begins, and how many bytes these take.
func quotedPieces(text string) ([]api.Part, int, api.Errno) {
	pair, inner := pairSingle, text[1:]
	if text[0] == '"' {
		pair = pairDouble
	}
	m := pair.FindStringSubmatch(text)
	if m != nil {
		inner = m[1]
	}
	pieces, at, e := piecesIn(inner)
	if text[0] == '\'' {
		pieces, at, e = []api.Part{quoted(inner)}, strings.IndexByte(inner, 0), api.OK
		if at >= 0 {
			e = api.ErrSyntax
		}
	}
	switch {
	case e != api.OK:
		return nil, 1 + at, e
	case m == nil:
		return nil, 0, api.ErrSyntax
	}
	return append(pieces, quoted("")), len(m[0]), api.OK
}

// pieces are a text's pieces, one behind the other: bytes, parameters, and a quoted one of no bytes for each pair of quotes.
func pieces(text string) ([]api.Part, int, api.Errno) {
	var out []api.Part
	for at := 0; at < len(text); {
		rest := text[at:]
		if m := nothing.FindString(rest); m != "" {
			at += len(m)
		} else if m := escapeOut.FindStringSubmatch(rest); m != nil {
			out, at = append(out, quoted(m[1])), at+len(m[0])
		} else if rest[0] == '\'' || rest[0] == '"' {
			within, length, e := quotedPieces(rest)
			if e != api.OK {
				return nil, at + length, e
			}
			out, at = append(out, within...), at+length
		} else if m := paramPiece.FindStringSubmatch(rest); m != nil {
			out, at = append(out, param(m[1]+m[2])), at+len(m[0])
		} else if neverDollar.MatchString(rest) || neverOut.MatchString(rest) || rest[0] == '~' && len(out) == 0 {
			return nil, at, api.ErrNever
		} else if wrongOut.MatchString(rest) || rest[0] == 0 || rest[0] == '#' && len(out) == 0 {
			return nil, at, api.ErrSyntax
		} else if strings.HasPrefix(rest, "\\\x00") {
			return nil, at + 1, api.ErrSyntax
		} else if rest[0] == '$' {
			out, at = append(out, quoted("$")), at+1
		} else {
			out, at = append(out, bare(rest[:1])), at+1
		}
	}
	if len(out) == 0 {
		return nil, 0, api.ErrSyntax
	}
	return out, 0, api.OK
}

// together puts pieces together: a pair of quotes counts where nothing else that is quoted stands beside it.
func together(pieces []api.Part) []api.Part {
	var out []api.Part
	for len(pieces) > 0 {
		kind := pieces[0].Quoted
		end := 1
		for end < len(pieces) && pieces[end].Quoted == kind {
			end++
		}
		stretch := slices.DeleteFunc(slices.Clone(pieces[:end]), func(p api.Part) bool { return p.Text == "" })
		if len(stretch) == 0 {
			stretch = []api.Part{quoted("")}
		}
		for i, piece := range stretch {
			if i > 0 && !piece.Var && !stretch[i-1].Var {
				out[len(out)-1].Text += piece.Text
			} else {
				out = append(out, piece)
			}
		}
		pieces = pieces[end:]
	}
	return out
}

// P2.1, over every short text of the bytes that mean something.
func TestEveryShortText(t *testing.T) {
	check := func(text string) {
		if text == "" {
			return
		}
		want, at, e := pieces(text)
		got, gotAt, gotE := word.Of(plainToken(text, 0))
		if gotAt != at || gotE != e || !slices.Equal(got.Parts, together(want)) {
			t.Fatalf("Of(%q) = %v, %d, %d; want %v, %d, %d", text, got, gotAt, gotE, together(want), at, e)
		}
	}
	texts("a1${}'\"\\\n#*\x00 `~(", 4, check)
	texts("a$'\"\\\n", 7, check)
	texts("x${}\"'", 6, check)
	texts("a$#?0-\"", 5, check)
}

// shortWords hands on every word of at most so many of some parts.
func shortWords(from []api.Part, most int, yield func(api.Word)) {
	yield(api.Word{})
	if most == 0 {
		return
	}
	for _, part := range from {
		shortWords(from, most-1, func(rest api.Word) {
			yield(api.Word{Parts: append([]api.Part{part}, rest.Parts...)})
		})
	}
}

// letters writes a word a letter a part: b and q for bytes, e for a quoted part of none, p and P for parameters.
func letters(w api.Word) string {
	var out []byte
	for _, part := range w.Parts {
		switch {
		case part.Var && part.Quoted:
			out = append(out, 'P')
		case part.Var:
			out = append(out, 'p')
		case part.Quoted && part.Text == "":
			out = append(out, 'e')
		case part.Quoted:
			out = append(out, 'q')
		default:
			out = append(out, 'b')
		}
	}
	return string(out)
}

// P2.1: which parts may stand beside one another.
func TestMayByParts(t *testing.T) {
	mayNot := regexp.MustCompile("^$|bb|qq|e[qePe]|[qPe]e")
	seen := 0
	parts := []api.Part{bare("a"), quoted("b"), quoted(""), param("x"), quotedParam("x")}
	shortWords(parts, 5, func(w api.Word) {
		seen++
		for _, at := range []int{0, 7, -1} {
			w.At = at
			if got, want := word.May(w), !mayNot.MatchString(letters(w)); got != want {
				t.Errorf("May(%v) = %v", w, got)
			}
		}
	})
	if seen != 1+5+25+125+625+3125 {
		t.Errorf("%d words were seen", seen)
	}
}

// P2.1: which bytes a part may have.
func TestMayByBytes(t *testing.T) {
	for b := range 256 {
		text := string([]byte{byte(b)})
		within := !strings.Contains("\x00 \t\n'\"\\$;&|<>()*?[`", text)
		first := within && text != "#" && text != "~"
		for _, x := range []struct {
			w    api.Word
			want bool
		}{
			{wordOf(bare(text)), first}, {wordOf(bare(text + "a")), first}, {wordOf(bare("a" + text)), within},
			{wordOf(bare("a" + text + "b")), within}, {wordOf(param("x"), bare(text)), within},
			{wordOf(quoted(""), bare(text)), within}, {wordOf(quotedParam("x"), bare(text+"a")), within},
			{wordOf(bare(strings.Repeat("long", 9) + text + "e")), within},
			{wordOf(quoted(text)), b != 0}, {wordOf(quoted("a" + text + "b")), b != 0}, {wordOf(bare("a"), quoted(text)), b != 0},
		} {
			if got := word.May(x.w); got != x.want {
				t.Errorf("May(%v) = %v", x.w, got)
			}
		}
	}
}

// P2.1: words that may not be.
func TestMayNot(t *testing.T) {
	for _, w := range []api.Word{
		{}, {At: 3}, {Parts: []api.Part{}}, wordOf(bare("")), wordOf(bare("a"), param("x"), bare("")), wordOf(api.Part{}),
		wordOf(param("")), wordOf(param("0")), wordOf(param("10")), wordOf(param("a-b")), wordOf(quotedParam("")),
		wordOf(quotedParam("@")), wordOf(bare("a"), param("1x")), wordOf(bare("#a")), wordOf(bare("~"), quoted("a")),
		wordOf(bare("a"), bare("b")), wordOf(quoted("a"), quoted("b")), wordOf(quoted(""), quotedParam("x")),
	} {
		if word.May(w) {
			t.Errorf("May(%v)", w)
		}
		if text, e := word.Show(w); text != "" || e != api.ErrForm {
			t.Errorf("Show(%v) = %q, %d", w, text, e)
		}
	}
}

// P2.1: a word's text.
func TestShow(t *testing.T) {
	for _, x := range []struct {
		parts []api.Part
		want  string
	}{
		{[]api.Part{bare("mkdir")}, "mkdir"},
		{[]api.Part{bare("a#~{}!=]")}, "a#~{}!=]"},
		{[]api.Part{param("x")}, "${x}"},
		{[]api.Part{param("1"), bare("x"), param("?"), param("#")}, "${1}x${?}${#}"},
		{[]api.Part{quoted("")}, "\"\""},
		{[]api.Part{bare("a"), quoted(""), bare("b")}, "a\"\"b"},
		{[]api.Part{quoted("a b\n\t*'")}, "\"a b\n\t*'\""},
		{[]api.Part{quoted("$x \"`\\ !")}, "\"\\$x \\\"\\`\\\\ !\""},
		{[]api.Part{quoted("\\\n")}, "\"\\\\\n\""},
		{[]api.Part{quoted("a"), quotedParam("x"), quotedParam("1"), quoted("b")}, "\"a${x}${1}b\""},
		{[]api.Part{bare("a"), quoted("b c"), quotedParam("x")}, "a\"b c${x}\""},
		{[]api.Part{quoted("a"), bare("b"), quoted("c"), param("x"), quotedParam("y")}, "\"a\"b\"c\"${x}\"${y}\""},
		{[]api.Part{quoted(""), bare("#")}, "\"\"#"},
		{[]api.Part{quoted("\xff\x01")}, "\"\xff\x01\""},
	} {
		got, e := word.Show(api.Word{Parts: x.parts, At: 5})
		if got != x.want || e != api.OK {
			t.Errorf("Show(%v) = %q, %d; want %q", x.parts, got, e, x.want)
		}
	}
}

// P2.1: a parameter's name.
func TestParam(t *testing.T) {
	isParam := regexp.MustCompile(`^(?:[A-Za-z_][A-Za-z_0-9]*|[1-9#?])\z`)
	check := func(s string) {
		if got, want := word.Param(s), isParam.MatchString(s); got != want {
			t.Errorf("Param(%q) = %v", s, got)
		}
	}
	check("")
	for a := range 256 {
		check(string([]byte{byte(a)}))
		for b := range 256 {
			check(string([]byte{byte(a), byte(b)}))
		}
	}
	for _, s := range []string{"name", "_0", "Name_9", "a b", "a\n", "\na", "a\x00", "é", "12", "##", "a?", "$a", "{a}", "{}"} {
		check(s)
	}
	if !word.Param(strings.Repeat("_", api.MaxName)) || word.Param(strings.Repeat("_", api.MaxName+1)) {
		t.Error("the limit of a name does not stand")
	}
}

// P2.2: a word's bytes, if nothing of it is quoted or a parameter.
func TestPlain(t *testing.T) {
	for _, x := range []struct {
		parts []api.Part
		want  string
		ok    bool
	}{
		{[]api.Part{bare("if")}, "if", true},
		{[]api.Part{bare("a"), bare("b")}, "ab", true},
		{[]api.Part{bare("")}, "", true},
		{[]api.Part{bare("# \x00")}, "# \x00", true},
		{nil, "", false}, {[]api.Part{}, "", false},
		{[]api.Part{quoted("a")}, "", false}, {[]api.Part{quoted("")}, "", false},
		{[]api.Part{param("x")}, "", false}, {[]api.Part{quotedParam("x")}, "", false},
		{[]api.Part{bare("a"), quoted("")}, "", false}, {[]api.Part{quoted(""), bare("a")}, "", false},
		{[]api.Part{bare("a"), param("x")}, "", false}, {[]api.Part{param("x"), bare("a")}, "", false},
		{[]api.Part{bare("a"), quoted("b"), bare("c")}, "", false},
	} {
		got, ok := word.Plain(api.Word{Parts: x.parts, At: 3})
		if got != x.want || ok != x.ok {
			t.Errorf("Plain(%v) = %q, %v; want %q, %v", x.parts, got, ok, x.want, x.ok)
		}
	}
}

// P2.2: an assignment's name, and the word behind the =.
func TestAssign(t *testing.T) {
	full := strings.Repeat("N", api.MaxName)
	for _, x := range []struct {
		parts []api.Part
		name  string
		want  []api.Part
	}{
		{[]api.Part{bare("x=1")}, "x", []api.Part{bare("1")}},
		{[]api.Part{bare("_a9Z=b=c")}, "_a9Z", []api.Part{bare("b=c")}},
		{[]api.Part{bare("x=")}, "x", nil},
		{[]api.Part{bare("x=="), param("y")}, "x", []api.Part{bare("="), param("y")}},
		{[]api.Part{bare("x="), quoted("")}, "x", []api.Part{quoted("")}},
		{[]api.Part{bare("x="), quotedParam("1"), bare("/b")}, "x", []api.Part{quotedParam("1"), bare("/b")}},
		{[]api.Part{bare("x=a"), quoted("b"), param("c")}, "x", []api.Part{bare("a"), quoted("b"), param("c")}},
		{[]api.Part{bare("x=#~")}, "x", []api.Part{bare("#~")}},
		{[]api.Part{bare(full + "=1")}, full, []api.Part{bare("1")}},
	} {
		for _, at := range []int{0, 9} {
			name, value, ok := word.Assign(api.Word{Parts: x.parts, At: at})
			if name != x.name || !ok || value.At != at || !slices.Equal(value.Parts, x.want) {
				t.Errorf("Assign(%v) = %q, %v, %v; want %q, %v", x.parts, name, value, ok, x.name, x.want)
			}
		}
	}
}

// P2.2: words that are no assignments.
func TestAssignNone(t *testing.T) {
	long := strings.Repeat("N", api.MaxName+1)
	for _, parts := range [][]api.Part{
		nil, {}, {bare("")}, {bare("=")}, {bare("=1")}, {bare("x")}, {bare("x"), bare("=1")}, {bare("1=x")}, {bare("9a=x")},
		{bare("#=x")}, {bare("?=x")}, {bare("a-b=c")}, {bare("-x=1")}, {bare("a b=c")}, {bare("a/b=c")}, {bare("\xc3\xa9=1")},
		{quoted("x=1")}, {quoted("x"), bare("=1")}, {bare("x"), quoted("=1")}, {bare("x"), quoted(""), bare("=1")},
		{quoted(""), bare("x=1")}, {param("x"), bare("=1")}, {param("x=1")}, {quotedParam("x=1")}, {bare("x"), param("y"), bare("=1")},
		{bare("a+=1")}, {bare("a[1]=x")}, {bare(long + "=1")},
	} {
		name, value, ok := word.Assign(api.Word{Parts: parts, At: 9})
		if ok || name != "" || value.At != 0 || len(value.Parts) != 0 {
			t.Errorf("Assign(%v) = %q, %v, %v", parts, name, value, ok)
		}
	}
}

// P2.2: words are the same by their parts, one by one.
func TestSame(t *testing.T) {
	var all []api.Word
	parts := []api.Part{bare("a"), bare("b"), quoted("a"), param("a"), quotedParam("a"), quoted(""), bare("")}
	shortWords(parts, 2, func(w api.Word) { all = append(all, w) })
	for i, a := range all {
		for j, b := range all {
			b.At = i
			if got := word.Same(a, b); got != (i == j) {
				t.Errorf("Same(%v, %v) = %v", a, b, got)
			}
		}
	}
	if !word.Same(api.Word{}, api.Word{Parts: []api.Part{}, At: 4}) {
		t.Error("words of no parts are not the same")
	}
}

// P2.3: of Show of a word that may be is that word.
func TestBack(t *testing.T) {
	check := func(w api.Word) {
		text, e := word.Show(w)
		if (e == api.OK) != word.May(w) {
			t.Fatalf("Show(%v): %d, and May: %v", w, e, word.May(w))
		}
		if e != api.OK {
			return
		}
		got, at, e := word.Of(plainToken(text, 8))
		if e != api.OK || at != 0 || got.At != 8 || !word.Same(got, w) || !slices.Equal(got.Parts, w.Parts) {
			t.Fatalf("Of(%q) = %v, %d, %d; want %v", text, got, at, e, w)
		}
	}
	shortWords([]api.Part{bare("a"), bare("#"), quoted("$(\\\n\"`'"), quoted(""), param("x"), quotedParam("1")}, 5, check)
	shortWords([]api.Part{bare("}1{"), bare("~"), quoted("a*;"), quoted("{x}"), param("?"), quotedParam("x")}, 4, check)
	for b := range 256 {
		text := string([]byte{byte(b)})
		check(wordOf(bare(text)))
		check(wordOf(quoted(text)))
		check(wordOf(param("x"), bare(text), quotedParam("x"), quoted(text), param("1"), bare("a"+text), param(text)))
	}
}

// P2.3: what Of tells may be, and its text is read as it again.
func TestWhatIsReadMayBe(t *testing.T) {
	check := func(text string) {
		got, _, e := word.Of(plainToken(text, 0))
		if word.May(got) != (e == api.OK) {
			t.Fatalf("May of Of(%q) = %v, %d", text, got, e)
		}
		if e != api.OK {
			return
		}
		shown, e := word.Show(got)
		again, _, againE := word.Of(plainToken(shown, 0))
		if e != api.OK || againE != api.OK || !word.Same(again, got) {
			t.Fatalf("%q: %v, shown as %q, %d, read as %v, %d", text, got, shown, e, again, againE)
		}
	}
	texts("a1${}'\"\\\n#~ ", 4, check)
	texts("a$'\"\\\n", 6, check)
}

// P2.3: a word's text is one token of a script, but for words that are operators where they stand alone.
func TestTextsAreTokens(t *testing.T) {
	shortWords([]api.Part{bare("a"), quoted("b \"\n;"), quoted(""), param("x"), quotedParam("#")}, 4, func(w api.Word) {
		text, e := word.Show(w)
		if e != api.OK {
			return
		}
		tokens, _, e := lex.Tokens("rm " + text)
		if e != api.OK || len(tokens) != 2 || tokens[1] != plainToken(text, 3) {
			t.Fatalf("%q is cut into %v, %d", text, tokens, e)
		}
	})
}

// R3: what is handed in is not changed, and an answer shares no list with it.
func TestAnswersShareNothing(t *testing.T) {
	parts := []api.Part{bare("x=a"), quoted("b"), param("c"), bare("behind")}
	before := slices.Clone(parts)
	w := api.Word{Parts: parts[:3]}
	_, value, _ := word.Assign(w)
	spoil(value.Parts)
	if !slices.Equal(parts, before) {
		t.Errorf("what was written to an answer shows in the argument: %v", parts)
	}
	_, value, _ = word.Assign(w)
	spoil(w.Parts)
	if want := []api.Part{bare("a"), quoted("b"), param("c")}; !slices.Equal(value.Parts, want) {
		t.Errorf("what was written to an argument shows in the answer: %v", value.Parts)
	}
	first, _, _ := word.Of(plainToken("a'b'$c", 0))
	spoil(first.Parts)
	second, _, _ := word.Of(plainToken("a'b'$c", 0))
	if want := []api.Part{bare("a"), quoted("b"), param("c")}; !slices.Equal(second.Parts, want) {
		t.Errorf("what was written to one answer shows in another one: %v", second.Parts)
	}
}

func spoil(parts []api.Part) {
	parts = parts[:cap(parts)]
	for i := range parts {
		parts[i] = quotedParam("spoilt")
	}
}

// inside tells whether a text's bytes are a piece of another one's memory.
func inside(text, whole string) bool {
	start, from := uintptr(unsafe.Pointer(unsafe.StringData(text))), uintptr(unsafe.Pointer(unsafe.StringData(whole)))
	return text != "" && start >= from && start < from+uintptr(len(whole))
}

// R3: texts of an answer are no pieces of those that were handed in.
func TestAnswersKeepNoText(t *testing.T) {
	text := strings.Repeat("n", 9) + "=" + strings.Repeat("v", 9) + "'q q'$param"
	w, _, _ := word.Of(plainToken(text, 0))
	if len(w.Parts) != 3 {
		t.Fatalf("Of(%q) = %v", text, w)
	}
	name, value, _ := word.Assign(w)
	for i, part := range w.Parts {
		if inside(part.Text, text) {
			t.Errorf("part %d of Of is a piece of the token's text", i)
		}
		if inside(name, part.Text) || slices.ContainsFunc(value.Parts, func(v api.Part) bool { return inside(v.Text, part.Text) }) {
			t.Errorf("what Assign tells has a piece of part %d", i)
		}
	}
	one := wordOf(bare(strings.Repeat("a", 9)))
	shown, _ := word.Show(one)
	plain, _ := word.Plain(one)
	if inside(shown, one.Parts[0].Text) || inside(plain, one.Parts[0].Text) {
		t.Error("what Show or Plain tells is a piece of the word's text")
	}
}

// A long word is read in one go, whatever it is made of.
func TestLongWords(t *testing.T) {
	const many = 1 << 18
	for _, piece := range []string{"a", "'a'", "\\a", "''", "$", "\"\\\n\""} {
		got, at, e := word.Of(plainToken("b"+strings.Repeat(piece, many), 0))
		if piece == "$" {
			if e != api.ErrNever || at != 1 {
				t.Errorf("many %q: %d, %d", piece, at, e)
			}
		} else if e != api.OK || at != 0 || !word.May(got) || len(got.Parts) > 2 {
			t.Errorf("many %q: %d parts, %d, %d", piece, len(got.Parts), at, e)
		}
	}
	got, _, e := word.Of(plainToken(strings.Repeat("$x'a'b", many), 0))
	if e != api.OK || len(got.Parts) != 3*many || !word.May(got) {
		t.Errorf("a word of many parts: %d parts, %d", len(got.Parts), e)
	}
}
