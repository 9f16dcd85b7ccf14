package il_test

import (
	"slices"
	"testing"

	"touchstone/api"
	"touchstone/il"
)

// checkNames checks which names are read, and set, in an instruction.
func checkNames(t *testing.T, i api.Ins, reads, sets []string) {
	t.Helper()
	if got := il.Reads(i); !slices.Equal(got, reads) {
		t.Errorf("Reads(%s) = %q; want %q", short(i), got, reads)
	}
	if got := il.Sets(i); !slices.Equal(got, sets) {
		t.Errorf("Sets(%s) = %q; want %q", short(i), got, sets)
	}
}

// P16.2: what is read, and set, by one of each Kind.
func TestNamesOfEachKind(t *testing.T) {
	skip := of(api.ISkip)
	checkNames(t, skip, nil, nil)
	checkNames(t, of(api.ICheck), nil, nil)
	checkNames(t, of(api.INot), nil, nil)
	checkNames(t, assign("x", one()), nil, list("x"))
	checkNames(t, assign("x", one(bare("y"))), nil, list("x"))
	checkNames(t, assign("x", one(param("y"))), list("y"), list("x"))
	checkNames(t, assign("x", one(quotedParam("x"))), list("x"), list("x"))
	checkNames(t, call(one(bare("a")), split(param("b")), one(quoted("c"), quotedParam("d"))), list("b", "d"), nil)
	checkNames(t, seq(), nil, nil)
	checkNames(t, seq(call(one(param("x"))), assign("y", one())), list("x"), list("y"))
	checkNames(t, of(api.IIf, call(one(param("a"))), assign("b", one(param("c"))), assign("d", one())), list("a", "c"), list("b", "d"))
	checkNames(t, of(api.ILoop, assign("a", one(param("b"))), call(split(param("c")))), list("b", "c"), list("a"))
	checkNames(t, forEach("f", skip), nil, list("f"))
	checkNames(t, forEach("f", call(split(param("f"))), split(param("g")), one(param("h"))), list("f", "g", "h"), list("f"))
}

// P16.2: each name once, and in their order, by their bytes.
func TestNamesRise(t *testing.T) {
	checkNames(t, call(one(param("b"), param("a")), split(param("b")), one(quotedParam("a"), param("c"))), list("a", "b", "c"), nil)
	checkNames(t, call(one(param("x"), quotedParam("x"), param("x"))), list("x"), nil)
	all := list("z", "a", "B", "_", "aa", "Z9", "a1", "a_", "A")
	var items []api.Item
	var kids []api.Ins
	for _, name := range all {
		items = append(items, one(param(name)), split(quotedParam(name)))
		kids = append(kids, assign(name, one()), forEach(name, assign(name, one())))
	}
	rising := list("A", "B", "Z9", "_", "a", "a1", "a_", "aa", "z")
	checkNames(t, seq(call(items...), seq(kids...), call(items...)), rising, rising)
	slices.Reverse(items)
	slices.Reverse(kids)
	checkNames(t, seq(seq(kids...), of(api.ILoop, call(items...), seq(kids...))), rising, rising)
}

// P16.2: parameters that are no variables are not read; bytes are not either, whatever they say.
func TestNamesThatAreNotRead(t *testing.T) {
	for _, name := range list("1", "2", "3", "4", "5", "6", "7", "8", "9", "#", "?") {
		checkNames(t, call(one(param(name)), split(quotedParam(name))), nil, nil)
		checkNames(t, assign("x", one(param(name), param("y"))), list("y"), list("x"))
		checkNames(t, forEach("x", call(split(param("x"), param(name))), split(param(name))), list("x"), list("x"))
	}
	checkNames(t, call(one(bare("x"), quoted("$x ${y}"), bare("z"))), nil, nil)
	checkNames(t, seq(assign("x", one(bare("y"))), call(one(bare("x=1")))), nil, list("x"))
}

// P16.2: also of instructions that may not be: all parameters in all Items, and the Names of IAssign and IEach.
func TestNamesOfWhatMayNotBe(t *testing.T) {
	for kind := range 256 {
		i := api.Ins{Kind: uint8(kind), Name: "n", Items: list(one(param("b"), param("1")), split(param("a"))), Kids: list(assign("k", one(param("c"))), call(), of(0))}
		sets := list("k")
		if i.Kind == api.IAssign || i.Kind == api.IEach {
			sets = list("k", "n")
		}
		checkNames(t, i, list("a", "b", "c"), sets)
		checkNames(t, seq(of(0, i)), list("a", "b", "c"), sets)
	}
	checkNames(t, assign("x", split(param("y"), bare(""))), list("y"), list("x"))
	checkNames(t, api.Ins{Kind: api.IAssign, Name: "x"}, nil, list("x"))
	checkNames(t, api.Ins{Kind: api.IEach, Name: "x"}, nil, list("x"))
	checkNames(t, seq(assign("1", one()), forEach("?", of(0)), assign("no name", one())), nil, list("1", "?", "no name"))
	checkNames(t, call(times(api.MaxArgs+1, one(param("x")))...), list("x"), nil)
	checkNames(t, call(one(param("0"), param("10"), param("1a"), param("##"), param("no name"), param("12345"), param("\xff"))), list("##", "0", "10", "12345", "1a", "no name", "\xff"), nil)
	checkNames(t, seq(assign("", one(param(""))), assign("x", one(quotedParam("")))), list(""), list("", "x"))
	long := lettersOf(api.MaxName + 1)
	checkNames(t, forEach(long, of(0), one(param(long))), list(long), list(long))
}
