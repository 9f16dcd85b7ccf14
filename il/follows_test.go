package il_test

import (
	"maps"
	"slices"
	"strconv"
	"strings"
	"testing"

	"touchstone/api"
	"touchstone/il"
)

// dice throws the same numbers in each run.
type dice uint64

func (d *dice) roll(n int) int {
	*d = *d*6364136223846793005 + 1442695040888963407
	return int(uint64(*d)>>33) % n
}

func pick[T any](d *dice, from ...T) T { return from[d.roll(len(from))] }

// made is an instruction that may be, and what is promised of it, put together as it was made: the second way.
type made struct {
	ins         api.Ins
	lines       []string
	reads, sets map[string]int
}

// part puts a part that may stand behind another one to a text and to its parts.
func (d *dice) part(m *made, parts []api.Part, text string) ([]api.Part, string) {
	if len(parts) == 0 || parts[len(parts)-1].Var {
		if s := pick(d, "", "a", "b", "#", "~x", "vp1:x", "4:", "12345678", "\xff="); s != "" {
			return append(parts, bare(s)), text + "bp" + strconv.Itoa(len(s)) + ":" + s
		}
	}
	// Nothing quoted but parameters stands beside a parameter that is.
	if len(parts) > 0 && !parts[len(parts)-1].Quoted {
		if s := pick(d, "no", "", "a", "\n", " ", ": =*", "0123456789"); s != "no" {
			return append(parts, quoted(s), bare("c")), text + "bq" + strconv.Itoa(len(s)) + ":" + s + "bp1:c"
		}
	}
	name, quotes := pick(d, "x", "y", "Name_1", "1", "?", "#", "a"), d.roll(2)
	if len(name) > 1 || strings.Contains("xya", name) {
		m.reads[name]++
	}
	text += list("vp", "vq")[quotes] + strconv.Itoa(len(name)) + ":" + name
	return append(parts, api.Part{Var: true, Text: name, Quoted: quotes == 1}), text
}

// item puts an item to an instruction, and to its line.
func (d *dice) item(m *made, mayBeSplit bool) {
	var parts []api.Part
	text := ""
	for range d.roll(4) {
		parts, text = d.part(m, parts, text)
	}
	sign, isSplit := " =", false
	if mayBeSplit && d.roll(2) == 0 {
		sign, isSplit = " *", true
	}
	m.ins.Items = append(m.ins.Items, api.Item{Parts: parts, Split: isSplit})
	m.lines[0] += sign + strconv.Itoa(len(text)) + ":" + text
}

// name gives a Name to an instruction, and puts it to its line.
func (d *dice) name(m *made) {
	m.ins.Name = pick(d, "x", "y", "A", "_2", "Name_1")
	m.sets[m.ins.Name]++
	m.lines[0] += " " + m.ins.Name
}

// kid makes a Kid for an instruction, and puts its lines behind the others.
func (d *dice) kid(m *made, depth int) {
	kid := d.instruction(depth - 1)
	m.ins.Kids = append(m.ins.Kids, kid.ins)
	for _, line := range kid.lines {
		m.lines = append(m.lines, " "+line)
	}
	maps.Copy(m.reads, kid.reads)
	maps.Copy(m.sets, kid.sets)
}

// instruction is some instruction that may be, of so many within one another at most.
func (d *dice) instruction(depth int) made {
	m := made{reads: map[string]int{}, sets: map[string]int{}}
	kinds := list(api.ISkip, api.ICheck, api.INot, api.IAssign, api.ICall, api.ISeq)
	if depth > 1 {
		kinds = append(kinds, api.IIf, api.ILoop, api.IEach, api.ISeq, api.ISeq)
	}
	m.ins.Kind = pick(d, kinds...)
	m.lines = list([]string{"", "skip", "assign", "call", "check", "seq", "not", "if", "loop", "each"}[m.ins.Kind])
	kids := 0
	switch m.ins.Kind {
	case api.IAssign:
		d.name(&m)
		d.item(&m, false)
	case api.ICall:
		for range 1 + d.roll(3) {
			d.item(&m, true)
		}
	case api.ISeq:
		kids = d.roll(4) * min(1, depth-1)
	case api.IIf:
		kids = 3
	case api.ILoop:
		kids = 2
	case api.IEach:
		d.name(&m)
		for range d.roll(3) {
			d.item(&m, true)
		}
		kids = 1
	}
	for range kids {
		d.kid(&m, depth)
	}
	return m
}

// check checks all that is promised of an instruction that was made.
func (m made) check(t *testing.T) {
	t.Helper()
	checkShown(t, m.ins, m.lines...)
	checkNames(t, m.ins, slices.Sorted(maps.Keys(m.reads)), slices.Sorted(maps.Keys(m.sets)))
	if il.Size(m.ins) != len(m.lines) || !il.Same(m.ins, again(m.ins)) {
		t.Errorf("Size(%s) = %d; want %d", short(m.ins), il.Size(m.ins), len(m.lines))
	}
}

// P16.1, P16.2, P16.3: many programs, against the second way; there are as many lines as instructions.
func TestManyPrograms(t *testing.T) {
	d := dice(16)
	for range 20000 {
		d.instruction(1 + d.roll(5)).check(t)
		if t.Failed() {
			return
		}
	}
}

// count reads a number and a : that stand first.
func count(t *testing.T, text string) (int, string) {
	t.Helper()
	number, rest, ok := strings.Cut(text, ":")
	n, err := strconv.Atoi(number)
	if !ok || err != nil || strconv.Itoa(n) != number || n < 0 || n > len(rest) {
		t.Fatalf("%q begins by no number", text)
	}
	return n, rest
}

// readParts reads parts' text.
func readParts(t *testing.T, text string) (parts []api.Part) {
	t.Helper()
	for text != "" {
		n, rest := count(t, text[2:])
		parts = append(parts, api.Part{Var: text[0] == 'v', Text: rest[:n], Quoted: text[1] == 'q'})
		text = rest[n:]
	}
	return parts
}

// readItems reads items' texts, each behind a blank.
func readItems(t *testing.T, text string) (items []api.Item) {
	t.Helper()
	for text != "" {
		n, rest := count(t, text[2:])
		items = append(items, api.Item{Parts: readParts(t, rest[:n]), Split: text[1] == '*'})
		text = rest[n:]
	}
	return items
}

// read reads the instruction whose line stands first, with so many blanks ahead, and its Kids; what is left are the others.
func read(t *testing.T, lines []string, depth int) (api.Ins, []string) {
	t.Helper()
	line := lines[0][depth:]
	word, _, _ := strings.Cut(line, " ")
	kinds := map[string]uint8{"skip": api.ISkip, "check": api.ICheck, "not": api.INot, "assign": api.IAssign, "call": api.ICall, "seq": api.ISeq, "if": api.IIf, "loop": api.ILoop, "each": api.IEach}
	i := api.Ins{Kind: kinds[word]}
	rest := line[len(word):]
	if word == "assign" || word == "each" {
		i.Name, _, _ = strings.Cut(rest[1:], " ")
		rest = rest[1+len(i.Name):]
	}
	i.Items = readItems(t, rest)
	lines = lines[1:]
	for len(lines) > 0 && strings.HasPrefix(lines[0], strings.Repeat(" ", depth+1)) {
		var kid api.Ins
		kid, lines = read(t, lines, depth+1)
		i.Kids = append(i.Kids, kid)
	}
	return i, lines
}

// P16.3: the lines tell the instruction: it can be read out of them.
func TestReadBack(t *testing.T) {
	d := dice(163)
	all := oneOfEach()
	for range 20000 {
		all = append(all, d.instruction(1+d.roll(6)).ins)
	}
	for _, i := range all {
		lines, e := il.Show(i)
		if e != api.OK {
			t.Fatalf("Show(%+v): %d", i, e)
		}
		back, rest := read(t, lines, 0)
		if len(rest) > 0 || !il.Same(back, i) {
			t.Fatalf("%q are lines of %+v, too", lines, back)
		}
	}
}

// P16.3: one that differs in one field alone has other lines, if it may be; what is the same in other memory has the same.
func TestAlteredPrograms(t *testing.T) {
	d := dice(3)
	several := 0
	for range 1000 {
		i := d.instruction(1 + d.roll(4)).ins
		lines, _ := il.Show(i)
		if same, _ := il.Show(again(i)); !slices.Equal(same, lines) {
			t.Fatalf("%q are the lines of the same as those of %q", same, lines)
		}
		for _, other := range altered(i) {
			others, e := il.Show(other)
			if e != api.OK {
				continue
			}
			several++
			if slices.Equal(others, lines) || il.Same(i, other) || len(others) != il.Size(other) {
				t.Fatalf("%+v and %+v have the lines %q", i, other, lines)
			}
		}
	}
	if several < 10000 {
		t.Error("so many were altered:", several)
	}
}

// allOver are all instructions that have some of these for their Kids.
func allOver(kids []api.Ins) []api.Ins {
	all := list(seq())
	for _, a := range kids {
		all = append(all, seq(a), forEach("x", a), forEach("y", a, split()), forEach("y", a, one(), one(bare("=0:"))))
		for _, b := range kids {
			all = append(all, seq(a, b), of(api.ILoop, a, b))
			for _, c := range kids {
				all = append(all, seq(a, b, c), of(api.IIf, a, b, c))
			}
		}
	}
	return all
}

// P16.3: all programs of a few instructions: two have the same lines just if they are the same one.
func TestAllSmallPrograms(t *testing.T) {
	leaves := list(of(api.ISkip), of(api.INot), assign("x", one()), call(one()), call(split()), call(one(quoted("\nskip"))))
	all := append(slices.Clone(leaves), allOver(leaves)...)
	some := list(leaves[0], leaves[2], leaves[5], seq(leaves[0]), seq(leaves[0], leaves[2]), of(api.ILoop, leaves[0], leaves[0]), forEach("x", leaves[2]))
	all = append(all, allOver(some)...)
	places := map[string]int{}
	lines := make([]string, len(all))
	for n, i := range all {
		shown, e := il.Show(i)
		if e != api.OK || len(shown) != il.Size(i) {
			t.Fatalf("Show(%+v) = %q, %d", i, shown, e)
		}
		lines[n] = joined(shown)
		places[lines[n]]++
	}
	for n, a := range all {
		for m, b := range all {
			if il.Same(a, b) != (lines[n] == lines[m]) {
				t.Fatalf("%+v and %+v: %q and %q", a, b, lines[n], lines[m])
			}
		}
	}
	if len(places) < 1000 {
		t.Error("so many programs:", len(places))
	}
}

// together are the names of two lists, put together.
func together(a, b []string) []string {
	all := append(slices.Clone(a), b...)
	slices.Sort(all)
	return slices.Compact(all)
}

// checkParts checks that a Seq of two reads and sets what the two do.
func checkParts(t *testing.T, a, b api.Ins) {
	t.Helper()
	whole := seq(a, b)
	checkNames(t, whole, together(il.Reads(a), il.Reads(b)), together(il.Sets(a), il.Sets(b)))
	if il.Size(whole) != il.Size(a)+il.Size(b)+1 {
		t.Errorf("Size(%+v) = %d", whole, il.Size(whole))
	}
	if il.May(whole) != (il.May(a) && il.May(b)) {
		t.Errorf("May(%+v) = %t", whole, il.May(whole))
	}
}

// P16.4: a Seq of two against the two, those that may not be, too.
func TestSeqOfTwo(t *testing.T) {
	all := append(someIns(), oneOfEach()...)
	for _, a := range all {
		for _, b := range all {
			checkParts(t, a, b)
		}
	}
	d := dice(164)
	for range 10000 {
		a, b := d.instruction(1+d.roll(4)).ins, d.instruction(1+d.roll(4)).ins
		if odd := altered(b); d.roll(2) == 0 {
			b = odd[d.roll(len(odd))]
		}
		checkParts(t, a, b)
	}
}
