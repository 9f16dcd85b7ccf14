package syntax_test

import (
	"strings"
	"testing"

	"touchstone/api"
	"touchstone/syntax"
)

// checkMarked checks scripts that are wrong at the byte behind the mark ^.
func checkMarked(t *testing.T, e api.Errno, scripts []string) {
	t.Helper()
	for _, marked := range scripts {
		at := strings.Index(marked, "^")
		if at < 0 || strings.Count(marked, "^") != 1 {
			t.Fatalf("%q has no mark", marked)
		}
		checkFaults(t, []fault{{strings.Replace(marked, "^", "", 1), at, e}})
	}
}

// P3.1: tokens that may not stand where they stand, in a list.
func TestMisplacedInLists(t *testing.T) {
	checkMarked(t, api.ErrSyntax, []string{
		"^;", "\n^;", "a; ^;", "a\n^;b", "a;\n^;", "a; ^; b",
		"^&& a", "^|| a", "a && ^&& b", "a && ^; b", "a\n^&& b", "a; ^&& b", "a || ^|| b", "a || ^;",
		"! ^&& a", "! ^; a", "!^\na", "! ! ^;",
		"^then", "a; ^then", "^elif a", "^else", "^fi", "^do", "^done", "^esac", "^in", "^}", "a; ^}", "a\n^fi",
		"a && ^then", "a || ^}", "a && ^in b", "! ^fi", "! ^}", "! ^esac",
	})
}

// P3.1: tokens that may not stand where they stand, in { } and in an if.
func TestMisplacedInGroups(t *testing.T) {
	checkMarked(t, api.ErrSyntax, []string{
		"{ ^}", "{ ^; }", "{\n^}", "{ a; ^then }", "{ a; } ^b", "{ a; } ^{ b; }", "{ a; } ^if b; then c; fi",
		"{ a; } ^fi", "{ a; } ^}", "{ a; } ^! b", "{ a; } ^'b'", "{ a; } ^case", "{ a; } ^in", "{ a; } ^x=1",
		"if ^then a; fi", "if ^; then a; fi", "if a; ^fi", "if a; ^else b; fi", "if a; ^elif", "if a; ^do b; done", "if a then b; ^fi",
		"if a; then ^fi", "if a; then ^; fi", "if a; then ^else b; fi", "if a; then ^elif b; then c; fi", "if a; then b; ^done",
		"if a; then b; ^then", "if a; then b; ^}", "if a; then b; else ^fi", "if a; then b; else c; ^else d; fi",
		"if a; then b; else c; ^elif d; then e; fi", "if a; then b; elif ^fi", "if a; then b; elif c; ^fi",
		"if a; then b; elif c; ^else d; fi", "if a; then b; elif ^then c; fi", "if a; then b; fi ^c", "if a; then b; fi ^else",
		"if a; then b; fi ^fi", "{ if a; ^}", "if { a; ^then b; fi", "if a; then { b; ^fi",
	})
}

// P3.1: tokens that may not stand where they stand, in a loop.
func TestMisplacedInLoops(t *testing.T) {
	checkMarked(t, api.ErrSyntax, []string{
		"while ^do a; done", "while a; ^done", "while a; do ^done", "while a; ^then", "while a; do b; ^fi", "while a; do b; ^do",
		"while a; do b; done ^c", "while a do b; ^done", "until ^do a; done", "until a; do b; ^}", "until a; do b; done ^done",
		"for ^; do a; done", "for^\nf in x", "for ^1 in x", "for ^? in x", "for ^1a in x", "for ^a-b in x", "for ^f# in x",
		"for ^'f' in x", "for ^$f in x", "for ^f\\\n in x", "for ^f\\x in x", "for ^f'' in x", "for ^f=1 in x", "for ^{ in x", "for ^! in x", "for ^&& in x",
		"for ^" + strings.Repeat("n", api.MaxName+1) + " in x; do a; done",
		"for f in x do a; ^done", "for f in x; ^a; done", "for f in x; ^then", "for f in x\n^; do", "for f in x; ^; do", "for f in x ^&& do",
		"for f in x; ^'do' a; done", "for f in x; ^case", "for f in x; ^{ a; }", "for f in x; ^! a",
		"for f in x; do ^done", "for f in x; do ^; done", "for f in x; do a; ^fi", "for f in x; do a; done ^b", "for f in x; do a; done ^do",
	})
}

// P3.1: constructs that are not supported.
func TestUnsupported(t *testing.T) {
	checkMarked(t, api.ErrNever, []string{
		"a ^| b", "a ^& b", "a ^&", "a ^> b", "a ^< b", "a ^>> b", "a ^<< b", "^( a )", "a ^( b", "a^() { b; }", "^) a", "a ^;; b", "a 2^> b",
		"a; ^| b", "a && ^| b", "! ^| b", "^&", "{ ^( a ); }", "{ a; } ^> b", "{ a; } ^| b", "x=1 ^| a", "if a; then b; fi ^& c",
		"for ^| in x", "for f in x ^> y", "for f in x; ^( a )", "for f in ^;; do", "while a; do b; done ^< c", "if a; ^;; then", "a $^(b)",
		"^case a in", "^function f", "^select f in x", "^time a", "^coproc a", "^[[ a ]]",
		"a; ^case b in", "a && ^time b", "a || ^[[ b ]]", "! ^time a", "{ ^function f", "if ^case", "if a; then ^case", "while ^time a", "for f in x; do ^select",
	})
}

// P3.1: a word behind an assignment, and what stands in the place of a for's in.
func TestUnsupportedForms(t *testing.T) {
	checkMarked(t, api.ErrNever, []string{
		"x=1 ^y", "x=1 ^y=2", "x= ^y", "x=1 ^!", "x=1 ^}", "{ x=1 ^}", "x=1 ^if", "x=1 ^'y' z", "a && x=1 ^y", "if x=1 ^then", "x\\\n=1 ^y",
		"for f ^do a; done", "for f^; do a; done", "for f\n^do a; done", "for f ^x*", "for f ^&& x", "for f ^x", "for f ^'in' x",
		"for f ^i\\\nn x", "for f ^{", "for f ^(", "for f\n\n^!", "for in ^x", "for f ^\"$(a)\"",
	})
}

// P3.1: a command's first word that comes to a reserved one by a backslash ahead of a line's end; another word may.
func TestReservedByBackslash(t *testing.T) {
	checkMarked(t, api.ErrNever, []string{
		"^i\\\nf a; then b; fi", "^if\\\n a", "a; ^th\\\nen", "^{\\\n a", "^!\\\n a", "a && ^}\\\n", "^ca\\\nse", "if a; ^t\\\nhen b; fi",
		"! ^i\\\nn", "^es\\\nac", "while a; do b; ^d\\\none", "^[\\\n[",
	})
	checkMarked(t, api.ErrSyntax, []string{"for f in x; ^d\\\no a; done", "{ a; } ^}\\\n"})
	checkShapes(t, []row{
		{"a i\\\nf", "[a if]"},
		{"a }\\\n b", "[a } b]"},
		{"'i'\\\nf", "['i'f]"},
		{"i\\\nfx", "[ifx]"},
		{"for f in d\\\no; do a; done", "for f[do]([a])"},
	})
}

// P3.1: a word that word.Of refuses, where a word may stand.
func TestRefusedWords(t *testing.T) {
	checkMarked(t, api.ErrNever, []string{
		"a^*", "a b^?c", "a; b ^[c", "^~ a", "a ^~/b", "a ^`b`", "a \"^$(b)\"", "a ^${b:-c}", "a ^$@", "x=1^*", "x=^`a`", "x=1 y^*", "x=1 ^~",
		"for f in a b^*; do c; done", "if a^*", "{ a^*", "! a^*", "a && b^*", "^[ a ]", "^[[a", "a ^[[", "a then^*",
	})
}

// P3.1: a word that word.Of refuses for its form, where a word may stand; a script's tokens leave only a backslash at its end.
func TestMalformedWords(t *testing.T) {
	checkMarked(t, api.ErrSyntax, []string{"a ^\\", "^\\", "a b^\\", "x=1 ^\\", "x=^\\", "for f in ^\\", "a 'b'^\\", "a 'b'\n^\\", "''^\\"})
}

// P3.1: where no word may stand, what is in a word does not matter.
func TestWrongWordsWhereNoneMayStand(t *testing.T) {
	checkMarked(t, api.ErrSyntax, []string{
		"for ^a* in x", "for ^~ in x", "for ^\"$(a)\" in x", "for ^\\",
		"{ a; } ^b*", "{ a; } ^~", "if a; then b; fi ^`c`", "while a; do b; done ^c?", "for f in x; do a; done ^[",
		"for f in x; ^a*", "{ a; } ^b\\", "{ a; } ^x=*",
	})
	checkMarked(t, api.ErrNever, []string{"for f ^a\\", "for f ^~"})
}

// P3.1: a script that ends too early is wrong at its end.
func TestTooEarlyEnds(t *testing.T) {
	for _, script := range []string{
		"!", "a &&", "a ||", "a && b ||", "{", "{ a", "{ a;", "{ a }", "{ a; }; {", "! !", "! {",
		"if", "if a", "if a;", "if a; then", "if a; then b", "if a; then b;", "if a; then b; else", "if a; then b; else c;", "if a; then b; elif",
		"if a; then b; elif c;", "if a; then b; elif c; then", "if a; then b; elif c; then d; else e;",
		"while", "while a;", "while a; do", "while a; do b;", "until", "until a; do b;", "while a; do b done",
		"for", "for f", "for f in", "for f in x", "for f in x;", "for f in x; do", "for f in x; do a;", "for f in x do",
		"if { a; }", "if { a; } then { b; }", "{ { a; }", "for f in x; do for g in y; do a; done",
	} {
		for _, behind := range []string{"", " ", "\n", "\n\n", " # a remark", "\n\\\n\t"} {
			if strings.HasPrefix(behind, "\n") && (strings.HasSuffix(script, "!") || script == "for") {
				continue // no line's end may stand there
			}
			checkFaults(t, []fault{{script + behind, len(script + behind), api.ErrSyntax}})
		}
	}
}

// P3.1: what is wrong first, from the left, is told; a command that is too large only where nothing else is wrong.
func TestWhichFaultIsTold(t *testing.T) {
	deep, wide := strings.Repeat("! ", api.MaxNest)+"a", strings.Repeat("a ", api.MaxArgs+1)
	wrong, never := api.ErrSyntax, api.ErrNever
	checkFaults(t, []fault{
		{"a | 'b", 4, wrong}, {"fi\x00", 2, wrong}, {strings.Repeat("|", api.MaxScript+1), 0, api.ErrTooLarge}, // lex.Tokens comes first
		{"a | fi", 2, never}, {"fi | a", 0, wrong}, {"a* | b", 1, never}, {"a | b*", 2, never}, {"a* ?b", 1, never}, {"{ a*; } | fi", 3, never},
		{"a ; ; b*", 4, wrong}, {"case fi", 0, never}, {"fi; case", 0, wrong}, {"x=1 y | z", 4, never}, {"x=* y", 2, never}, {"x=1 y* |", 5, never},
		{"for 1 x* |", 4, wrong}, {"if a; fi; b*", 6, wrong}, {"{ a* ", 3, never}, {"for f x* in", 6, never}, {"{ a; } b* |", 7, wrong},
		{deep + " | a", len(deep) + 1, never}, {deep + "; fi", len(deep) + 2, wrong}, {deep + " &&", len(deep) + 3, wrong},
		{wide + "| a", len(wide), never}, {wide + "; fi", len(wide) + 2, wrong}, {wide + "*", len(wide), never}, {"{ " + wide, len(wide) + 2, wrong},
		{"for f in " + wide, len(wide) + 9, wrong}, {"for f in " + wide + "; a", len(wide) + 11, wrong},
		{deep, 0, api.ErrTooLarge}, {wide, 0, api.ErrTooLarge}, {wide + ";" + deep, 0, api.ErrTooLarge},
	})
}

// P3.1: MaxArgs words, and one more.
func TestMaxArgs(t *testing.T) {
	most := strings.Repeat(" a", api.MaxArgs)
	for _, script := range []string{
		"WORDS", "b; WORDS", "! WORDS", "b && WORDS", "{ WORDS; }", "if WORDS; then WORDS; else WORDS; fi", "while WORDS; do WORDS; done",
		"for f in WORDS; do b; done", "for f in; do WORDS; done", "for f in WORDS; do WORDS; done",
	} {
		fits := strings.ReplaceAll(script, "WORDS", most)
		mustParse(t, fits)
		checkFaults(t, []fault{
			{strings.ReplaceAll(script, "WORDS", most+" a"), 0, api.ErrTooLarge},
			{fits + "; for f in" + most + " a; do b; done; " + fits, 0, api.ErrTooLarge},
		})
	}
}

// P3.1: a command of depth MaxNest, and of one more.
func TestMaxNest(t *testing.T) {
	for _, x := range []struct{ ahead, behind string }{
		{"! ", ""}, {"a && ", ""}, {"if a; then ", "; fi"}, {"if ", "; then a; fi"}, {"if a; then b; else ", "; fi"},
		{"while ", "; do a; done"}, {"until a; do ", "; done"}, {"for f in; do ", "; done"}, {"{ ", "; a; }"}, {"{ a; ", "; }"}, {"", " || a"},
	} {
		within := func(levels int) string {
			script := "a"
			for range levels {
				script = x.ahead + script + x.behind
			}
			return script
		}
		if x.ahead == "a && " { // without { and } they would be grouped from the left, which is as deep
			within = func(levels int) string {
				return strings.Repeat("a && { ", levels) + "a" + strings.Repeat("; }", levels)
			}
		}
		c := mustParse(t, within(api.MaxNest-1))
		if syntax.Depth(c) != api.MaxNest || !syntax.May(c) {
			t.Errorf("Depth of %q is %d", within(api.MaxNest-1), syntax.Depth(c))
		}
		checkFaults(t, []fault{{within(api.MaxNest), 0, api.ErrTooLarge}})
	}
	elifs := func(levels int) string { return "if a; then b" + strings.Repeat("; elif a; then b", levels-2) + "; fi" }
	mustParse(t, elifs(api.MaxNest))
	checkFaults(t, []fault{{elifs(api.MaxNest + 1), 0, api.ErrTooLarge}})
	mustParse(t, "a"+strings.Repeat(" && a", api.MaxNest-1))
	checkFaults(t, []fault{{"a" + strings.Repeat(" && a", api.MaxNest), 0, api.ErrTooLarge}})
}

// P3.1: { and } alone make a command no deeper, nor do many commands in a list.
func TestLongScripts(t *testing.T) {
	checkShapes(t, []row{{strings.Repeat("{ ", 3000) + "a" + strings.Repeat(";}", 3000), "[a]"}})
	if c := mustParse(t, strings.Repeat("a\n", api.MaxScript/2)); len(c.Kids) != api.MaxScript/2 || syntax.Depth(c) != 2 {
		t.Error("a long Seq:", len(c.Kids), syntax.Depth(c))
	}
	for _, x := range []struct{ ahead, last string }{
		{"! ", "a"}, {"{ ", "a"}, {"if ", "a"}, {"while ", "a"}, {"a&&", "a"}, {"if a;then ", "a"}, {"for f in;do ", "a"}, {"if a;then a;elif ", "a"},
	} {
		script := strings.Repeat(x.ahead, (api.MaxScript-1)/len(x.ahead)) + x.last
		_, at, e := syntax.Parse(script)
		closed := x.ahead == "! " || x.ahead == "a&&"
		if closed && (e != api.ErrTooLarge || at != 0) || !closed && (e != api.ErrSyntax || at != len(script)) {
			t.Errorf("Parse of %q and so on: %d, %d", x.ahead, at, e)
		}
	}
}
