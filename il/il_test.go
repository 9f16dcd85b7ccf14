package il_test

import (
	"fmt"
	"slices"
	"strings"
	"testing"

	"touchstone/api"
	"touchstone/il"
)

func bare(text string) api.Part        { return api.Part{Text: text} }
func quoted(text string) api.Part      { return api.Part{Text: text, Quoted: true} }
func param(name string) api.Part       { return api.Part{Var: true, Text: name} }
func quotedParam(name string) api.Part { return api.Part{Var: true, Text: name, Quoted: true} }

// one is an item that is one text, split one that is split.
func one(parts ...api.Part) api.Item   { return api.Item{Parts: parts} }
func split(parts ...api.Part) api.Item { return api.Item{Parts: parts, Split: true} }

func list[T any](all ...T) []T         { return all }
func times[T any](count int, of T) []T { return slices.Repeat([]T{of}, count) }
func joined(lines []string) string     { return strings.Join(lines, "\x00") }
func lettersOf(count int) string       { return strings.Repeat("n", count) }

func of(kind uint8, kids ...api.Ins) api.Ins { return api.Ins{Kind: kind, Kids: kids} }
func seq(kids ...api.Ins) api.Ins            { return of(api.ISeq, kids...) }
func call(items ...api.Item) api.Ins         { return api.Ins{Kind: api.ICall, Items: items} }
func aCall(word string) api.Ins              { return call(split(bare(word))) }

func assign(name string, i api.Item) api.Ins {
	return api.Ins{Kind: api.IAssign, Name: name, Items: list(i)}
}

func forEach(name string, kid api.Ins, items ...api.Item) api.Ins {
	return api.Ins{Kind: api.IEach, Name: name, Items: items, Kids: list(kid)}
}

// short is the beginning of an instruction, as a failed test tells it.
func short(i api.Ins) string { return fmt.Sprintf("%.300s", fmt.Sprintf("%+v", i)) }

// oneOfEach are instructions that may be, one of each Kind, and at the Kind's edges more of them.
func oneOfEach() []api.Ins {
	skip, x := of(api.ISkip), split(quotedParam("x"), bare("a"))
	return list(
		skip, of(api.ICheck), of(api.INot),
		assign("x", one()), assign("_9", one(bare("#"), param("x"))), assign("A", one(quoted(""))),
		call(one()), call(split()), call(x, one(quoted(" ")), x), call(times(api.MaxArgs, x)...),
		seq(), seq(skip), seq(times(100, skip)...),
		of(api.IIf, skip, of(api.INot), aCall("b")), of(api.ILoop, skip, seq()),
		forEach("x", skip), forEach("x", skip, x), forEach("y", aCall("b"), times(api.MaxArgs, one())...),
	)
}

// checkMay checks whether an instruction may be; one that may not is not shown.
func checkMay(t *testing.T, i api.Ins, want bool) {
	t.Helper()
	if il.May(i) != want {
		t.Errorf("May(%s) = %t", short(i), !want)
	}
	lines, e := il.Show(i)
	if want != (e == api.OK) || !want && (lines != nil || e != api.ErrForm) {
		t.Errorf("Show(%s) = %.300q, %d", short(i), lines, e)
	}
}

// The chapter's examples.
func TestExamples(t *testing.T) {
	for _, x := range []struct {
		i     api.Ins
		lines []string
	}{
		{call(one(bare("echo")), split(param("x"))), list("call =8:bp4:echo *5:vp1:x")},
		{seq(of(api.ISkip), of(api.INot)), list("seq", " skip", " not")},
	} {
		checkShown(t, x.i, x.lines...)
	}
	checkMay(t, api.Ins{Kind: api.IAssign, Items: list(one(bare("a")))}, false)
	checkMay(t, api.Ins{Kind: api.IAssign}, false)
}

// P16.1: instructions of each Kind that may be.
func TestEachKind(t *testing.T) {
	for _, i := range oneOfEach() {
		checkMay(t, i, true)
	}
}

// P16.1: of no other Kind one may be, whatever it has.
func TestNoOtherKind(t *testing.T) {
	for kind := range 256 {
		if kind >= int(api.ISkip) && kind <= int(api.IEach) {
			continue
		}
		for _, i := range append(oneOfEach(), api.Ins{}) {
			i.Kind = uint8(kind)
			checkMay(t, i, false)
			checkMay(t, seq(i), false)
		}
	}
}

// P16.1: what is beside what a Kind has, or not as it has it.
func TestNotOfItsKind(t *testing.T) {
	skip, a := of(api.ISkip), one(bare("a"))
	for _, kind := range list(api.ISkip, api.ICheck, api.INot) {
		checkMay(t, api.Ins{Kind: kind, Name: "x"}, false)
		checkMay(t, api.Ins{Kind: kind, Items: list(one())}, false)
		checkMay(t, of(kind, skip), false)
		checkMay(t, api.Ins{Kind: kind, Items: []api.Item{}, Kids: []api.Ins{}}, true)
	}
	for _, i := range []api.Ins{
		{Kind: api.IAssign, Name: "x"}, {Kind: api.IAssign, Name: "x", Items: list(a, a)}, {Kind: api.IAssign, Items: list(a)},
		{Kind: api.IAssign, Name: "x", Items: list(a), Kids: list(skip)}, assign("x", split(bare("a"))), assign("x", split()),
		call(), {Kind: api.ICall, Name: "x", Items: list(a)}, {Kind: api.ICall, Items: list(a), Kids: list(skip)}, call(times(api.MaxArgs+1, a)...),
		{Kind: api.ISeq, Name: "x"}, {Kind: api.ISeq, Items: list(a)}, {Kind: api.ISeq, Name: "x", Kids: list(skip)}, {Kind: api.ISeq, Items: list(one()), Kids: list(skip)},
		of(api.IIf), of(api.IIf, skip, skip), of(api.IIf, skip, skip, skip, skip), {Kind: api.IIf, Name: "x", Kids: times(3, skip)}, {Kind: api.IIf, Items: list(a), Kids: times(3, skip)},
		of(api.ILoop), of(api.ILoop, skip), of(api.ILoop, skip, skip, skip), {Kind: api.ILoop, Name: "x", Kids: times(2, skip)}, {Kind: api.ILoop, Items: list(a), Kids: times(2, skip)},
		forEach("", skip, a), forEach("x", skip, times(api.MaxArgs+1, a)...), {Kind: api.IEach, Name: "x", Items: list(a)}, {Kind: api.IEach, Name: "x", Items: list(a), Kids: times(2, skip)},
	} {
		checkMay(t, i, false)
	}
}

// R1: whatever is handed in, a call answers.
func TestOddInputs(t *testing.T) {
	deep, wide := of(api.ISkip), of(api.ISkip)
	for range 60000 {
		deep = seq(deep)
	}
	for range 17 {
		wide = seq(wide, wide)
	}
	for _, x := range []struct {
		i    api.Ins
		size int
	}{{deep, 60001}, {wide, 1<<18 - 1}, {seq(times(1<<18, assign("x", one(param("y"))))...), 1<<18 + 1}} {
		if !il.May(x.i) || il.Size(x.i) != x.size || !il.Same(x.i, x.i) || il.Same(x.i, seq(x.i)) {
			t.Error("many instructions:", il.May(x.i), il.Size(x.i))
		}
		if len(il.Reads(x.i)) > 1 || len(il.Sets(x.i)) > 1 {
			t.Error("names come more than once")
		}
	}
	for kind := range 256 {
		i := api.Ins{Kind: uint8(kind), Name: "\x00", Items: make([]api.Item, 3), Kids: make([]api.Ins, 4)}
		checkMay(t, i, false)
		if il.Size(i) != 5 || !il.Same(i, i) {
			t.Errorf("Size(%+v) = %d", i, il.Size(i))
		}
		if kind != int(api.IAssign) && kind != int(api.IEach) {
			checkNames(t, i, nil, nil)
		}
	}
}
