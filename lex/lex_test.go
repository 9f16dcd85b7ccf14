package lex_test

import (
	"regexp"
	"slices"
	"strings"
	"testing"
	"unsafe"

	"touchstone/api"
	"touchstone/lex"
)

func plain(text string, at int) api.Token { return api.Token{Kind: api.Plain, Text: text, At: at} }
func op(text string, at int) api.Token    { return api.Token{Kind: api.Op, Text: text, At: at} }
func line(at int) api.Token               { return api.Token{Kind: api.Newline, Text: "\n", At: at} }

// row is a script, and the tokens that it must be cut into.
type row struct {
	script string
	want   []api.Token
}

func checkRows(t *testing.T, rows []row) {
	t.Helper()
	for _, r := range rows {
		got, at, e := lex.Tokens(r.script)
		if e != api.OK || at != 0 || !slices.Equal(got, r.want) {
			t.Errorf("Tokens(%q) = %v, %d, %d; want %v", r.script, got, at, e, r.want)
		}
	}
}

// P1.1.
func TestOrdinaryScripts(t *testing.T) {
	checkRows(t, []row{
		{"mkdir -p \"a b\"; ! x", []api.Token{plain("mkdir", 0), plain("-p", 6), plain("\"a b\"", 9), op(";", 14), op("!", 16), plain("x", 18)}},
		{"a&&b||c", []api.Token{plain("a", 0), op("&&", 1), plain("b", 3), op("||", 4), plain("c", 6)}},
		{"set -e\nx=$1\n", []api.Token{plain("set", 0), plain("-e", 4), line(6), plain("x=$1", 7), line(11)}},
		{"if test -d a; then { rm -r a; } fi", []api.Token{plain("if", 0), plain("test", 3), plain("-d", 8), plain("a", 11), op(";", 12),
			plain("then", 14), op("{", 19), plain("rm", 21), plain("-r", 24), plain("a", 27), op(";", 28), op("}", 30), plain("fi", 32)}},
		{"a | b > c < d & (e)", []api.Token{plain("a", 0), op("|", 2), plain("b", 4), op(">", 6), plain("c", 8), op("<", 10),
			plain("d", 12), op("&", 14), op("(", 16), plain("e", 17), op(")", 18)}},
	})
}

// P1.1: nothing at all, and what is passed over alone.
func TestScriptsOfNoTokens(t *testing.T) {
	checkRows(t, []row{{"", nil}, {" ", nil}, {"\t \t", nil}, {"# a; b", nil}, {"\\\n", nil}, {" \\\n\t# a", nil}})
}

// P1.1: a line's end is a token each time, also behind a remark.
func TestLinesEnds(t *testing.T) {
	checkRows(t, []row{
		{"\n", []api.Token{line(0)}},
		{"\n\n \n", []api.Token{line(0), line(1), line(3)}},
		{"a\nb", []api.Token{plain("a", 0), line(1), plain("b", 2)}},
		{"a # b\nc", []api.Token{plain("a", 0), line(5), plain("c", 6)}},
		{"a\r\n", []api.Token{plain("a\r", 0), line(2)}},
	})
}

// P1.1: the longest operator that stands there is taken.
func TestOperators(t *testing.T) {
	for _, text := range []string{"&&", "||", ";;", "<<", ">>", ";", "&", "|", "<", ">", "(", ")"} {
		end := 1 + len(text)
		checkRows(t, []row{
			{text, []api.Token{op(text, 0)}},
			{"a" + text + "b", []api.Token{plain("a", 0), op(text, 1), plain("b", end)}},
		})
	}
	checkRows(t, []row{
		{"&&&", []api.Token{op("&&", 0), op("&", 2)}},
		{"|||", []api.Token{op("||", 0), op("|", 2)}},
		{";;;;;", []api.Token{op(";;", 0), op(";;", 2), op(";", 4)}},
		{"<<<", []api.Token{op("<<", 0), op("<", 2)}},
		{">>>", []api.Token{op(">>", 0), op(">", 2)}},
		{"(())", []api.Token{op("(", 0), op("(", 1), op(")", 2), op(")", 3)}},
		{"<>>&|;", []api.Token{op("<", 0), op(">>", 1), op("&", 3), op("|", 4), op(";", 5)}},
		{"& &", []api.Token{op("&", 0), op("&", 2)}},
		{"&\\\n&", []api.Token{op("&", 0), op("&", 3)}},
	})
}

// P1.1: ! and { and } are operators only where the word is nothing else.
func TestWordsThatAreOperators(t *testing.T) {
	checkRows(t, []row{
		{"! { }", []api.Token{op("!", 0), op("{", 2), op("}", 4)}},
		{"{;}", []api.Token{op("{", 0), op(";", 1), op("}", 2)}},
		{"!(\n}", []api.Token{op("!", 0), op("(", 1), line(2), op("}", 3)}},
		{"echo !", []api.Token{plain("echo", 0), op("!", 5)}},
		{"!! {} {a a} !a", []api.Token{plain("!!", 0), plain("{}", 3), plain("{a", 6), plain("a}", 9), plain("!a", 12)}},
		{"'!' \"{\" \\}", []api.Token{plain("'!'", 0), plain("\"{\"", 4), plain("\\}", 8)}},
		{"!''", []api.Token{plain("!''", 0)}},
		{"!\\\n", []api.Token{plain("!\\\n", 0)}},
	})
}

// P1.1: a # begins a remark where a word would begin, and there alone.
func TestRemarks(t *testing.T) {
	checkRows(t, []row{
		{"a#b # c", []api.Token{plain("a#b", 0)}},
		{"a ##b", []api.Token{plain("a", 0)}},
		{"a;#b", []api.Token{plain("a", 0), op(";", 1)}},
		{"#a\n#b\nc#", []api.Token{line(2), line(5), plain("c#", 6)}},
		{"''#a \\#b", []api.Token{plain("''#a", 0), plain("\\#b", 5)}},
		{"\\\n#a\nb", []api.Token{line(4), plain("b", 5)}},
		{"a\\\n#b", []api.Token{plain("a\\\n#b", 0)}},
		{"# 'it\nb", []api.Token{line(5), plain("b", 6)}},
		{"# a \\\nb", []api.Token{line(5), plain("b", 6)}},
	})
}

// P1.1: a backslash and the byte behind it, whatever that is, belong to the word.
func TestBackslashes(t *testing.T) {
	checkRows(t, []row{
		{"a\\ b", []api.Token{plain("a\\ b", 0)}},
		{"\\;\\&\\|\\<\\>\\(\\)", []api.Token{plain("\\;\\&\\|\\<\\>\\(\\)", 0)}},
		{"\\'a \\\"b", []api.Token{plain("\\'a", 0), plain("\\\"b", 4)}},
		{"\\\\ a", []api.Token{plain("\\\\", 0), plain("a", 3)}},
		{"\\\\\na", []api.Token{plain("\\\\", 0), line(2), plain("a", 3)}},
		{"a\\\nb", []api.Token{plain("a\\\nb", 0)}},
		{"a \\\n b", []api.Token{plain("a", 0), plain("b", 5)}},
		{"a;\\\nb", []api.Token{plain("a", 0), op(";", 1), plain("b", 4)}},
		{"\\", []api.Token{plain("\\", 0)}},
		{"a\\", []api.Token{plain("a\\", 0)}},
		{"a \\", []api.Token{plain("a", 0), plain("\\", 2)}},
		{"a\\\n\\", []api.Token{plain("a\\\n\\", 0)}},
	})
}

// P1.1: what stands in quotes belongs to the word, line's ends and operators too.
func TestQuotes(t *testing.T) {
	checkRows(t, []row{
		{"''", []api.Token{plain("''", 0)}},
		{"\"\"", []api.Token{plain("\"\"", 0)}},
		{"a'b c'd\"e f\"g h", []api.Token{plain("a'b c'd\"e f\"g", 0), plain("h", 14)}},
		{"'a\n;&#\"' b", []api.Token{plain("'a\n;&#\"'", 0), plain("b", 9)}},
		{"\"a\n;&#'\" b", []api.Token{plain("\"a\n;&#'\"", 0), plain("b", 9)}},
		{"'\\' b", []api.Token{plain("'\\'", 0), plain("b", 4)}},
		{"\"\\\" b\"", []api.Token{plain("\"\\\" b\"", 0)}},
		{"\"\\\\\" b", []api.Token{plain("\"\\\\\"", 0), plain("b", 5)}},
		{"\"\\\n\"", []api.Token{plain("\"\\\n\"", 0)}},
		{"'a';'b'", []api.Token{plain("'a'", 0), op(";", 3), plain("'b'", 4)}},
	})
}

// P1.1: each byte but those that mean something is a word by itself.
func TestEveryByte(t *testing.T) {
	for b := range 256 {
		script := string([]byte{byte(b)})
		if !strings.Contains("\x00 \t\n#'\"!{};&|<>()", script) {
			checkRows(t, []row{
				{script, []api.Token{plain(script, 0)}},
				{"a" + script + "b", []api.Token{plain("a"+script+"b", 0)}},
			})
		}
	}
}

func checkFault(t *testing.T, script string, at int, e api.Errno) {
	t.Helper()
	tokens, gotAt, gotE := lex.Tokens(script)
	if len(tokens) != 0 || gotAt != at || gotE != e {
		t.Errorf("Tokens(%.40q) = %v, %d, %d; want none, %d, %d", script, tokens, gotAt, gotE, at, e)
	}
}

// P1.1: which fault comes first, and where it is told.
func TestFaults(t *testing.T) {
	for _, x := range []struct {
		script string
		at     int
	}{
		{"x'y", 1}, {"'", 0}, {"\"", 0}, {"a \"b", 2}, {"a\n'b\nc", 2},
		{"'a'b'c", 4}, {"'a'\"b'", 3}, {"\"a\"'b\"", 3},
		{"\"a\\\"", 0}, {"\"a\\", 0}, {"a\\''", 3}, {"a\\\\'", 3},
		{"\x00", 0}, {"ab\x00", 2}, {"a # \x00", 4}, {"'\x00'", 1}, {"\"a\x00\"", 2}, {"\\\x00", 1},
		{"a\x00b\x00", 1}, {"a;\x00", 2},
		{"\x00'", 0}, {"'\x00", 0}, {"a 'b\x00", 2}, {"a\x00 'b", 1}, {"'\x00' \"", 1}, {"\"a\x00\\", 0}, {"# \x00\n'", 2},
	} {
		checkFault(t, x.script, x.at, api.ErrSyntax)
	}
}

// P1.1: a script of MaxScript bytes is cut, one of one more is too large, whatever else is wrong.
func TestScriptsThatAreLarge(t *testing.T) {
	full := strings.Repeat("a", api.MaxScript)
	checkRows(t, []row{{full, []api.Token{plain(full, 0)}}})
	checkFault(t, full+"a", 0, api.ErrTooLarge)
	checkFault(t, full+"\x00", 0, api.ErrTooLarge)
	checkFault(t, full+"'", 0, api.ErrTooLarge)
	checkFault(t, strings.Repeat(" ", api.MaxScript+1), 0, api.ErrTooLarge)
	checkFault(t, full[1:]+"'", api.MaxScript-1, api.ErrSyntax)
	checkFault(t, full[1:]+"\x00", api.MaxScript-1, api.ErrSyntax)
	many, at, e := lex.Tokens(strings.Repeat("(", api.MaxScript))
	if e != api.OK || at != 0 || len(many) != api.MaxScript || many[api.MaxScript-1] != op("(", api.MaxScript-1) {
		t.Errorf("a script of operators alone: %d tokens, %d, %d", len(many), at, e)
	}
}

// R3: an answer is new memory, its spare room too.
func TestAnswersShareNothing(t *testing.T) {
	const script = "a b; c d"
	first, _, _ := lex.Tokens(script)
	second, _, _ := lex.Tokens(script)
	first = first[:cap(first)]
	for i := range first {
		first[i] = plain("spoilt", 7)
	}
	want := []api.Token{plain("a", 0), plain("b", 2), op(";", 3), plain("c", 5), plain("d", 7)}
	if !slices.Equal(second, want) {
		t.Errorf("what was written to one answer shows in another one: %v", second)
	}
	checkRows(t, []row{{script, want}})
}

// R3: the tokens' texts are no pieces of the script that was handed in.
func TestAnswersKeepNoScript(t *testing.T) {
	script := strings.Repeat("word ", 3)
	tokens, _, _ := lex.Tokens(script)
	if len(tokens) != 3 {
		t.Fatalf("Tokens(%q) = %v", script, tokens)
	}
	for _, token := range tokens {
		if unsafe.StringData(token.Text) == unsafe.StringData(script[token.At:]) {
			t.Errorf("%v is a piece of the script", token)
		}
	}
}

// scripts hands on every script over some bytes that has at most so many of them.
func scripts(alphabet string, most int, yield func(string)) {
	yield("")
	if most == 0 {
		return
	}
	for i := range len(alphabet) {
		scripts(alphabet, most-1, func(rest string) { yield(alphabet[i:i+1] + rest) })
	}
}

// The chapter's sentences a second time, as patterns: a quote that does not end is where none of them fits.
var (
	gapAt      = regexp.MustCompile(`^(?:[ \t]|\\\n)*(?:#[^\n]*)?`)
	operatorAt = regexp.MustCompile(`^(?:&&|\|\||;;|<<|>>|[;&|<>()])`)
	wordAt     = regexp.MustCompile(`^(?:[^ \t\n;&|<>()\\'"]|\\(?s:.)|\\\z|'[^']*'|"(?:[^"\\]|\\(?s:.))*")+`)
	onlyGap    = regexp.MustCompile(`^(?:[ \t]|\\\n)*(?:#[^\n]*)?$`)
)

func tokensByPatterns(script string) ([]api.Token, int, api.Errno) {
	nul := strings.IndexByte(script, 0)
	var tokens []api.Token
	for at := len(gapAt.FindString(script)); at < len(script); {
		token := plain(wordAt.FindString(script[at:]), at)
		if script[at] == '\n' {
			token = line(at)
		} else if text := operatorAt.FindString(script[at:]); text != "" {
			token = op(text, at)
		}
		if token.Text == "" && (nul < 0 || at < nul) {
			return nil, at, api.ErrSyntax
		}
		if token.Text == "" {
			break
		}
		if token.Text == "!" || token.Text == "{" || token.Text == "}" {
			token.Kind = api.Op
		}
		tokens = append(tokens, token)
		at += len(token.Text)
		at += len(gapAt.FindString(script[at:]))
	}
	if nul >= 0 {
		return nil, nul, api.ErrSyntax
	}
	return tokens, 0, api.OK
}

// P1.1, over every short script of the bytes that mean something.
func TestEveryShortScript(t *testing.T) {
	check := func(script string) {
		want, wantAt, wantE := tokensByPatterns(script)
		got, at, e := lex.Tokens(script)
		if e != wantE || at != wantAt || !slices.Equal(got, want) {
			t.Errorf("Tokens(%q) = %v, %d, %d; want %v, %d, %d", script, got, at, e, want, wantAt, wantE)
		}
	}
	scripts("a \n#\\'\"\x00", 5, check)
	scripts("a\t\n#\\'!{};&|<>()\xff", 3, check)
}

// P1.2: what stands beside the tokens is blanks, remarks, and backslashes with a line's end.
func TestNothingIsLost(t *testing.T) {
	check := func(script string) {
		tokens, _, e := lex.Tokens(script)
		if e != api.OK {
			return
		}
		behind := 0
		for _, token := range append(tokens, api.Token{At: len(script)}) {
			end := token.At + len(token.Text)
			if token.At < behind || end > len(script) || script[token.At:end] != token.Text {
				t.Fatalf("Tokens(%q): %v does not stand there", script, token)
			}
			gap := script[behind:token.At]
			if !onlyGap.MatchString(gap) || strings.Contains(gap, "#") && token.Kind == api.Plain {
				t.Fatalf("Tokens(%q): %q is lost", script, gap)
			}
			behind = end
		}
	}
	scripts("a \n#\\'\";&", 5, check)
	scripts("!{}|<>()\t", 4, check)
}

func withoutPlaces(tokens []api.Token) []api.Token {
	out := slices.Clone(tokens)
	for i := range out {
		out[i].At = 0
	}
	return out
}

// P1.3: the tokens' texts with a blank behind each are cut into the same tokens.
func TestCutAgain(t *testing.T) {
	check := func(script string) {
		tokens, _, e := lex.Tokens(script)
		if e != api.OK || strings.HasSuffix(script, "\\") {
			return
		}
		var texts strings.Builder
		for _, token := range tokens {
			texts.WriteString(token.Text + " ")
		}
		again, _, e := lex.Tokens(texts.String())
		if e != api.OK || !slices.Equal(withoutPlaces(again), withoutPlaces(tokens)) {
			t.Errorf("%q, cut again: %v, %d; want %v", script, again, e, tokens)
		}
	}
	scripts("a \n#\\'\";&", 5, check)
	scripts("!{}|<>()a", 4, check)
}

// P1.4: two scripts with a line's end between are cut into the tokens of both, with a Newline between.
func TestTwoScripts(t *testing.T) {
	check := func(first, second string) {
		a, _, e1 := lex.Tokens(first)
		b, _, e2 := lex.Tokens(second)
		if e1 != api.OK || e2 != api.OK || strings.HasSuffix(first, "\\") {
			return
		}
		want := append(slices.Clone(a), line(len(first)))
		for _, token := range b {
			token.At += len(first) + 1
			want = append(want, token)
		}
		got, at, e := lex.Tokens(first + "\n" + second)
		if e != api.OK || at != 0 || !slices.Equal(got, want) {
			t.Errorf("%q and %q: %v, %d, %d; want %v", first, second, got, at, e, want)
		}
	}
	const alphabet = "a \n#\\'\";&!{"
	scripts(alphabet, 3, func(first string) {
		scripts(alphabet, 2, func(second string) { check(first, second) })
	})
	check("mkdir a # b", "# c\nrm 'a'")
}
