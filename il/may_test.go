package il_test

import (
	"regexp"
	"slices"
	"strings"
	"testing"

	"touchstone/api"
	"touchstone/il"
	"touchstone/syntax"
)

// aLetter stands for something that an instruction has.
type aLetter[T any] struct {
	letter string
	what   T
}

// rows are all rows of so many letters at most, with what they stand for.
func rows[T any](most int, letters ...aLetter[T]) []aLetter[[]T] {
	all := []aLetter[[]T]{{}}
	for begin := 0; most > 0; most-- {
		end := len(all)
		for _, row := range all[begin:end] {
			for _, l := range letters {
				all = append(all, aLetter[[]T]{row.letter + l.letter, append(slices.Clone(row.what), l.what)})
			}
		}
		begin = end
	}
	return all
}

// forms are the second way to whether an instruction may be, by the letters of what it has: N a Name, n one that is none;
// i an item, s one that is split, x one that may not be; k a Kid, z one that may not be.
func forms() map[uint8]*regexp.Regexp {
	nothing := regexp.MustCompile(`^$`)
	return map[uint8]*regexp.Regexp{
		api.ISkip: nothing, api.ICheck: nothing, api.INot: nothing,
		api.IAssign: regexp.MustCompile(`^Ni$`),
		api.ICall:   regexp.MustCompile(`^[is]{1,64}$`),
		api.ISeq:    regexp.MustCompile(`^k*$`),
		api.IIf:     regexp.MustCompile(`^kkk$`),
		api.ILoop:   regexp.MustCompile(`^kk$`),
		api.IEach:   regexp.MustCompile(`^N[is]{0,64}k$`),
	}
}

// P16.1: all instructions that have these, against their Kinds' forms.
func TestAllForms(t *testing.T) {
	names := []aLetter[string]{{"", ""}, {"N", "x"}, {"n", "1"}}
	items := rows(3, aLetter[api.Item]{"i", one(param("y"))}, aLetter[api.Item]{"s", split(bare("~"))}, aLetter[api.Item]{"x", one(bare(""))})
	for _, count := range list(api.MaxArgs-1, api.MaxArgs, api.MaxArgs+1) {
		for _, l := range items[1:4] {
			items = append(items, aLetter[[]api.Item]{strings.Repeat(l.letter, count), times(count, l.what[0])})
			items = append(items, aLetter[[]api.Item]{strings.Repeat("i", count-1) + l.letter, append(times(count-1, one()), l.what...)})
		}
	}
	kids := rows(4, aLetter[api.Ins]{"k", of(api.ISkip)}, aLetter[api.Ins]{"z", of(api.IIf)})
	for kind, form := range forms() {
		for _, name := range names {
			for _, its := range items {
				for _, kid := range kids {
					i := api.Ins{Kind: kind, Name: name.what, Items: its.what, Kids: kid.what}
					if want := form.MatchString(name.letter + its.letter + kid.letter); il.May(i) != want {
						t.Fatalf("Kind %d, %s%s%s: %t", kind, name.letter, its.letter, kid.letter, !want)
					}
				}
			}
		}
	}
}

// checkName checks whether a text may be the Name of an IAssign, and of an IEach.
func checkName(t *testing.T, name string, want bool) {
	t.Helper()
	checkMay(t, assign(name, one()), want)
	checkMay(t, forEach(name, of(api.ISkip)), want)
}

// P16.1: Names, also of the most bytes, and those of parameters that are no variables.
func TestNames(t *testing.T) {
	for _, name := range list("x", "_", "Z", "a1", "_1", "__", "x_Y_9", "if", lettersOf(api.MaxName), "_"+strings.Repeat("0", api.MaxName-1)) {
		checkName(t, name, true)
	}
	for _, name := range list("", "1", "5", "9", "0", "#", "?", "12", "1a", "@", "-", "x ", " x", "x=", "x\n", "x-", "x.", "é", "x\x00", "\xff", "xé", "$x", "{x}", "x?", "##", lettersOf(api.MaxName+1), lettersOf(api.MaxName)+"?") {
		checkName(t, name, false)
	}
	asName := regexp.MustCompile(`^[a-zA-Z_][a-zA-Z0-9_]{0,63}$`)
	for b := range 256 {
		one := string([]byte{byte(b)})
		for _, name := range list(one, "a"+one, one+"a", "a"+one+"a", lettersOf(api.MaxName-1)+one, lettersOf(api.MaxName)+one) {
			checkName(t, name, asName.MatchString(name))
		}
	}
}

// checkItem checks whether an item may be, as one of each of the Kinds that have items.
func checkItem(t *testing.T, want bool, parts ...api.Part) {
	t.Helper()
	checkMay(t, assign("x", one(parts...)), want)
	checkMay(t, assign("x", split(parts...)), false)
	for _, i := range list(one(parts...), split(parts...)) {
		checkMay(t, call(i), want)
		checkMay(t, call(one(), i, split(bare("a"))), want)
		checkMay(t, forEach("x", of(api.ISkip), i), want)
		checkMay(t, forEach("x", of(api.ISkip), split(bare("a")), one(), i), want)
	}
}

// P16.1: items: without parts, with those of words, with # or ~ first and elsewhere, and with those of no words.
func TestItems(t *testing.T) {
	for _, parts := range [][]api.Part{
		nil, {}, {bare("a")}, {quoted("")}, {quoted("a b\n'\"$\\")}, {param("x")}, {param("9")}, {quotedParam("#"), param("?")},
		{bare("a"), quoted(""), bare("b"), quotedParam("x"), quoted("c")}, {param("x"), param("y"), bare("\xff")},
		{bare("#")}, {bare("~")}, {bare("#a")}, {bare("~a")}, {bare("##")}, {bare("~~")}, {bare("#~")}, {bare("a#~")}, {bare("~"), param("x")}, {bare("#"), quoted("")},
		{quoted("#")}, {quoted("~")}, {param("x"), bare("#")}, {quoted("a"), bare("~")}, {quoted(""), bare("#a")}, {bare("=")}, {bare("x=~")}, {bare("if")}, {bare("!")},
	} {
		checkItem(t, true, parts...)
	}
	for _, parts := range [][]api.Part{
		{bare("")}, {bare(""), param("x")}, {param("x"), bare("")}, {bare("a"), bare("b")}, {bare("#"), bare("#")}, {bare("~"), bare("a")}, {quoted("a"), quoted("b")}, {quoted(""), quoted("")},
		{quoted(""), quotedParam("x")}, {quotedParam("x"), quoted("")}, {bare("a\x00")}, {quoted("\x00")}, {param("")}, {param("0")}, {param("12")}, {param("a-b")}, {quotedParam("@")}, {param(lettersOf(api.MaxName + 1))},
		{bare("#"), param("")}, {bare("~"), quoted("\x00")}, {bare("~ ")}, {bare("#\n")}, {bare("#*")}, {bare("~"), bare("")}, {bare("a"), param("x"), bare("")},
	} {
		checkItem(t, false, parts...)
	}
	for b := range 256 {
		text := string([]byte{byte(b)})
		allowed := !strings.Contains("\x00 \t\n'\"\\$;&|<>()*?[`", text)
		for _, bytes := range list(text, text+"a", "a"+text, "#"+text, "~"+text, text+text) {
			checkItem(t, allowed, bare(bytes))
		}
		checkItem(t, b != 0, quoted(text))
		checkItem(t, b != 0, bare("~"), quoted("a"+text))
	}
}

// P16.1: all items of a few parts: one is an assignment's just if a script assigns that word.
func TestItemsAsAssigned(t *testing.T) {
	sorts := list(
		bare(""), bare("a"), bare("#"), bare("~"), bare("#~"), bare("a#"), bare("$"), bare("="), bare(" "),
		quoted(""), quoted("#"), quoted("\x00"), quoted("a b"), param("x"), param("1"), param("?"), param(""), param("x y"), quotedParam("x"), quotedParam("0"),
	)
	for _, a := range sorts {
		for _, b := range sorts {
			for _, c := range sorts {
				for _, parts := range [][]api.Part{{a}, {a, b}, {a, b, c}} {
					want := syntax.May(api.Cmd{Kind: api.Simple, Name: "x", Words: list(api.Word{Parts: parts})})
					if il.May(assign("x", one(parts...))) != want || il.May(call(split(parts...))) != want || il.May(forEach("x", seq(), one(parts...))) != want {
						t.Fatalf("%+v: %t", parts, !want)
					}
				}
			}
		}
	}
}

// P16.1: one far down in others that may not be; which place it has does not matter.
func TestFarDown(t *testing.T) {
	skip, bad := of(api.ISkip), list(of(api.ICheck, of(api.ISkip)), call(), assign("?", one()), of(0), call(one(bare(""))), of(api.IEach+1))
	places := []func(api.Ins) api.Ins{
		func(i api.Ins) api.Ins { return seq(skip, skip, i) },
		func(i api.Ins) api.Ins { return seq(i, skip) },
		func(i api.Ins) api.Ins { return of(api.IIf, i, skip, skip) },
		func(i api.Ins) api.Ins { return of(api.IIf, skip, i, skip) },
		func(i api.Ins) api.Ins { return of(api.IIf, skip, skip, i) },
		func(i api.Ins) api.Ins { return of(api.ILoop, i, skip) },
		func(i api.Ins) api.Ins { return of(api.ILoop, skip, i) },
		func(i api.Ins) api.Ins { return forEach("x", i, one()) },
	}
	for _, outer := range places {
		for _, inner := range places {
			for _, i := range bad {
				checkMay(t, outer(i), false)
				checkMay(t, outer(inner(outer(i))), false)
			}
			checkMay(t, outer(inner(outer(skip))), true)
		}
	}
	for _, i := range append(bad, skip) {
		deep := i
		for n := range 300 {
			deep = places[n%len(places)](deep)
		}
		checkMay(t, deep, i.Kind == api.ISkip)
	}
}
