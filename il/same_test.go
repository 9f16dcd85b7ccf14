package il_test

import (
	"slices"
	"strings"
	"testing"

	"touchstone/api"
	"touchstone/il"
)

// again is the same instruction in new memory; its empty lists are not nil, if they are so here, and the other way about.
func again(i api.Ins) api.Ins {
	i.Name = strings.Clone(i.Name)
	i.Items, i.Kids = slices.Clone(i.Items), slices.Clone(i.Kids)
	for n := range i.Items {
		i.Items[n].Parts = turned(slices.Clone(i.Items[n].Parts))
	}
	for n := range i.Kids {
		i.Kids[n] = again(i.Kids[n])
	}
	i.Items, i.Kids = turned(i.Items), turned(i.Kids)
	return i
}

// turned is an empty list where there is none, and none where there is an empty one.
func turned[T any](all []T) []T {
	if len(all) > 0 {
		return all
	}
	if all == nil {
		return []T{}
	}
	return nil
}

// with is the same list with another thing at a place.
func with[T any](all []T, at int, what T) []T {
	all = slices.Clone(all)
	all[at] = what
	return all
}

// alteredParts are lists of parts that differ from one in one thing.
func alteredParts(parts []api.Part) [][]api.Part {
	all := [][]api.Part{append(slices.Clone(parts), param("more")), append(list(quoted("more")), parts...)}
	for n, p := range parts {
		all = append(all, slices.Delete(slices.Clone(parts), n, n+1))
		all = append(all, with(parts, n, api.Part{Var: !p.Var, Text: p.Text, Quoted: p.Quoted}))
		all = append(all, with(parts, n, api.Part{Var: p.Var, Text: p.Text, Quoted: !p.Quoted}))
		all = append(all, with(parts, n, api.Part{Var: p.Var, Text: p.Text + "m", Quoted: p.Quoted}))
		all = append(all, with(parts, n, api.Part{Var: p.Var, Text: "m" + p.Text, Quoted: p.Quoted}))
	}
	return all
}

// altered are instructions that differ from one in one field alone, at any depth.
func altered(i api.Ins) []api.Ins {
	var all []api.Ins
	change := func(to func(c *api.Ins)) {
		c := i
		to(&c)
		all = append(all, c)
	}
	change(func(c *api.Ins) { c.Kind++ })
	change(func(c *api.Ins) { c.Kind ^= 128 })
	change(func(c *api.Ins) { c.Name += "m" })
	change(func(c *api.Ins) { c.Items = append(slices.Clone(c.Items), one()) })
	change(func(c *api.Ins) { c.Items = append(list(split()), c.Items...) })
	change(func(c *api.Ins) { c.Kids = append(slices.Clone(c.Kids), api.Ins{}) })
	change(func(c *api.Ins) { c.Kids = append(list(of(api.ICheck)), c.Kids...) })
	for n, item := range i.Items {
		change(func(c *api.Ins) { c.Items = slices.Delete(slices.Clone(c.Items), n, n+1) })
		change(func(c *api.Ins) { c.Items = with(c.Items, n, api.Item{Parts: item.Parts, Split: !item.Split}) })
		for _, parts := range alteredParts(item.Parts) {
			change(func(c *api.Ins) { c.Items = with(c.Items, n, api.Item{Parts: parts, Split: item.Split}) })
		}
	}
	for n, kid := range i.Kids {
		change(func(c *api.Ins) { c.Kids = slices.Delete(slices.Clone(c.Kids), n, n+1) })
		for _, other := range altered(kid) {
			change(func(c *api.Ins) { c.Kids = with(c.Kids, n, other) })
		}
	}
	return all
}

// someIns are instructions, of which some may be, and others not.
func someIns() []api.Ins {
	odd := api.Ins{Kind: 200, Name: "?", Items: list(one(bare("a")), split(param("x"), quoted("b"))), Kids: list(of(api.INot), of(0))}
	return list(
		api.Ins{}, of(api.ISkip), of(api.INot), assign("x", one()), assign("x", one(bare("a"), quotedParam("y"))), call(one(), split(), one(param("x"))), seq(), seq(of(api.ISkip), seq()),
		of(api.IIf, seq(of(api.ICheck)), aCall("b"), forEach("z", assign("z", one(param("z"))), one(bare("c")))), of(api.ILoop, odd, aCall("b")), odd, forEach("x", odd),
		api.Ins{Kind: api.ISkip, Name: "x", Items: list(one()), Kids: list(of(api.ISkip))}, assign("?", split(bare(""))), call(one(bare("a"), bare("b"))), of(api.IIf),
	)
}

// P16.1: an instruction is the same as itself in other memory, also where a list is nil, or empty.
func TestSame(t *testing.T) {
	for _, i := range append(someIns(), oneOfEach()...) {
		if !il.Same(i, i) || !il.Same(i, again(i)) || !il.Same(again(i), i) || !il.Same(again(i), again(again(i))) {
			t.Errorf("Same(%s, itself) = false", short(i))
		}
	}
	none := []api.Ins{
		{Kind: api.ISeq}, {Kind: api.ISeq, Items: []api.Item{}}, {Kind: api.ISeq, Kids: []api.Ins{}}, {Kind: api.ISeq, Items: []api.Item{}, Kids: []api.Ins{}},
	}
	parts := []api.Ins{call(one(), split()), call(one([]api.Part{}...), split([]api.Part{}...))}
	for _, alike := range [][]api.Ins{none, parts} {
		for _, a := range alike {
			for _, b := range alike {
				if !il.Same(a, b) || !il.Same(seq(a, b), seq(b, a)) {
					t.Errorf("Same(%#v, %#v) = false", a, b)
				}
			}
		}
	}
}

// P16.1: instructions that differ in one field alone are not the same, at whatever depth.
func TestNotSame(t *testing.T) {
	for _, i := range someIns() {
		for _, outer := range list(i, seq(i), of(api.IIf, of(api.ISkip), seq(of(api.INot), i), seq())) {
			all := altered(outer)
			for _, other := range all {
				if il.Same(outer, other) || il.Same(other, outer) {
					t.Errorf("Same(%+v, %+v) = true", outer, other)
				}
			}
			if len(all) < 7 {
				t.Error("so many are altered:", len(all))
			}
		}
	}
	for n, a := range someIns() {
		for m, b := range someIns() {
			if il.Same(a, b) != (n == m) {
				t.Errorf("Same(%+v, %+v) = %t", a, b, n != m)
			}
		}
	}
	skip, not := of(api.ISkip), of(api.INot)
	for _, x := range [][2]api.Ins{
		{seq(skip, not), seq(not, skip)}, {seq(seq(skip), not), seq(seq(skip, not))}, {seq(seq()), seq(of(api.ISkip))}, {call(one(bare("a")), split(bare("b"))), call(split(bare("b")), one(bare("a")))},
		{call(one(bare("a"), param("b"))), call(one(bare("a")), one(param("b")))}, {call(one(bare("ab"))), call(one(bare("a"), bare("b")))}, {call(one(), one()), call(one())}, {call(one(quoted(""))), call(one())},
		{assign("x", one(bare("y"))), assign("y", one(bare("x")))}, {of(api.IIf, skip, not, skip), of(api.IIf, skip, skip, not)}, {call(one(param("x"), quotedParam("x"))), call(one(quotedParam("x"), param("x")))},
	} {
		if il.Same(x[0], x[1]) || il.Same(x[1], x[0]) {
			t.Errorf("Same(%+v, %+v) = true", x[0], x[1])
		}
	}
}

// P16.1: how many instructions there are, whatever they are.
func TestSize(t *testing.T) {
	skip, a := of(api.ISkip), one(bare("a"))
	for _, x := range []struct {
		i    api.Ins
		want int
	}{
		{skip, 1}, {of(api.ICheck), 1}, {of(api.INot), 1}, {assign("x", a), 1}, {call(a, a, a), 1}, {seq(), 1}, {seq(skip, skip), 3}, {of(api.IIf, skip, skip, skip), 4}, {of(api.ILoop, skip, skip), 3}, {forEach("x", skip, a), 2},
		{of(api.IIf, seq(skip, skip), of(api.ILoop, skip, seq()), forEach("x", seq(skip))), 10},
		{api.Ins{}, 1}, {of(0, skip), 2}, {of(77, of(api.ISkip, skip), of(api.ICheck, of(0))), 5}, {api.Ins{Kind: api.ICall, Name: "x", Kids: times(9, skip)}, 10}, {seq(times(1000, seq(skip))...), 2001},
		{api.Ins{Kind: api.ISkip, Items: times(5, a), Kids: []api.Ins{}}, 1},
	} {
		if got := il.Size(x.i); got != x.want {
			t.Errorf("Size(%s) = %d; want %d", short(x.i), got, x.want)
		}
	}
}
