package spell_test

import (
	"cmp"
	"slices"
	"strings"
	"testing"
	"unsafe"

	"touchstone/api"
	"touchstone/ftree"
	"touchstone/spell"
)

// again is the same node in memory of its own.
func again(n api.Node) api.Node {
	c := api.Node{Kind: n.Kind, Text: strings.Clone(n.Text)}
	for i, name := range n.Names {
		c.Names = append(c.Names, strings.Clone(name))
		c.Kids = append(c.Kids, again(n.Kids[i]))
	}
	return c
}

// roomy is the same node, with room behind its lists, in which something stands that would be shown, if it were read.
func roomy(n api.Node) api.Node {
	names, kids := slices.Clone(n.Names), slices.Clone(n.Kids)
	for i := range kids {
		kids[i] = roomy(kids[i])
	}
	n.Names = append(names, "\xffroom", "\xffroom2")[:len(names)]
	n.Kids = append(kids, file("room"), file("room"))[:len(kids)]
	return n
}

// checkRoom checks that what stands behind the ends of a roomy node's lists stands there still.
func checkRoom(t *testing.T, n api.Node) {
	t.Helper()
	for _, kid := range n.Kids {
		checkRoom(t, kid)
	}
	names, kids := n.Names[len(n.Names):len(n.Names)+2], n.Kids[len(n.Kids):len(n.Kids)+2]
	if !slices.Equal(names, list("\xffroom", "\xffroom2")) || !ftree.Same(kids[0], file("room")) || !ftree.Same(kids[1], file("room")) {
		t.Errorf("behind a node's lists stand %q, and nodes of the Kinds %d and %d", names, kids[0].Kind, kids[1].Kind)
	}
}

// overwrite writes over all of a node's lists, and over the room behind them.
func overwrite(n api.Node) {
	for _, kid := range n.Kids {
		overwrite(kid)
	}
	names, kids := n.Names[:cap(n.Names)], n.Kids[:cap(n.Kids)]
	for i := range names {
		names[i] = "written"
	}
	for i := range kids {
		kids[i] = link("written")
	}
}

// piece is memory from one byte on up to another one.
type piece struct{ from, end uintptr }

// memory is what a list's room takes, or nothing.
func memory(begin unsafe.Pointer, size uintptr) []piece {
	if size == 0 {
		return nil
	}
	return []piece{{uintptr(begin), uintptr(begin) + size}}
}

func memoryOfText(s string) []piece {
	return memory(unsafe.Pointer(unsafe.StringData(s)), uintptr(len(s)))
}

// memoryOfTexts is that of a list, with the room behind it, and of the texts in it.
func memoryOfTexts(texts []string) []piece {
	all := memory(unsafe.Pointer(unsafe.SliceData(texts)), uintptr(cap(texts))*unsafe.Sizeof(""))
	for _, text := range texts {
		all = append(all, memoryOfText(text)...)
	}
	return all
}

// memoryOfNode is that of a node's texts and lists.
func memoryOfNode(n api.Node) []piece {
	all := append(memoryOfText(n.Text), memoryOfTexts(n.Names)...)
	all = append(all, memory(unsafe.Pointer(unsafe.SliceData(n.Kids)), uintptr(cap(n.Kids))*unsafe.Sizeof(n))...)
	for _, kid := range n.Kids {
		all = append(all, memoryOfNode(kid)...)
	}
	return all
}

// checkApart checks that no two pieces of memory share a byte.
func checkApart(t *testing.T, all ...piece) {
	t.Helper()
	slices.SortFunc(all, func(a, b piece) int { return cmp.Compare(a.from, b.from) })
	for i := 1; i < len(all); i++ {
		if all[i].from < all[i-1].end {
			t.Errorf("memory is shared")
			return
		}
	}
}

// R3: what is handed in and what is handed out share no memory, nor do two answers.
func TestMemoryApart(t *testing.T) {
	for _, s := range samples() {
		n, text := again(s.node), strings.Clone(s.text)
		shown, _ := spell.Show(n)
		shownAgain, _ := spell.Show(n)
		lines, _ := spell.List(n)
		linesAgain, _ := spell.List(n)
		read, _ := spell.Parse(text)
		readAgain, _ := spell.Parse(text)
		checkApart(t, slices.Concat(
			memoryOfNode(n), memoryOfText(text),
			memoryOfText(shown), memoryOfText(shownAgain),
			memoryOfTexts(lines), memoryOfTexts(linesAgain),
			memoryOfNode(read), memoryOfNode(readAgain))...)
	}
}

// R3: nodes that are handed in are neither changed nor read behind the ends of their lists.
func TestNodesStay(t *testing.T) {
	for _, s := range samples() {
		n := roomy(s.node)
		for range 2 {
			if text, e := spell.Show(n); text != s.text || e != api.OK {
				t.Errorf("Show = %.300q, %d; want %.300q", text, e, s.text)
			}
			if lines, e := spell.List(n); !slices.Equal(lines, s.lines) || e != api.OK {
				t.Errorf("List of %.300q = %.300q, %d", s.text, lines, e)
			}
		}
		if !ftree.Same(n, s.node) {
			t.Errorf("the node of %.300q was changed", s.text)
		}
		checkRoom(t, n)
	}
}

// R3: nodes that are refused are not changed either.
func TestIllFormedNodesStay(t *testing.T) {
	for i, n := range illFormed() {
		handed := roomy(n)
		spell.Show(handed)
		spell.List(handed)
		if !ftree.Same(handed, n) {
			t.Errorf("ill-formed node %d was changed", i)
		}
		checkRoom(t, handed)
	}
}

// R3: what the caller writes over an answer, or over what it handed in, no later answer shows.
func TestWritingOver(t *testing.T) {
	for _, s := range samples() {
		n := roomy(again(s.node))
		text, _ := spell.Show(n)
		lines, _ := spell.List(n)
		other, _ := spell.List(n)
		read, _ := spell.Parse(text)
		kept, _ := spell.Parse(text)
		overwrite(n)
		overwrite(read)
		overwrite(api.Node{Names: lines})
		if text != s.text || !slices.Equal(other, s.lines) || !ftree.Same(kept, s.node) {
			t.Errorf("of %.300q are left %.300q and %.300q", s.text, text, other)
		}
		checkShow(t, s.node, s.text)
		if got, e := spell.List(s.node); !slices.Equal(got, s.lines) || e != api.OK {
			t.Errorf("List of %.300q = %.300q, %d", s.text, got, e)
		}
	}
}

// R3: the bytes of texts that are handed in are not kept.
func TestWritingOverBytes(t *testing.T) {
	bytes := []byte("d2:4:namef4:text5:otherl4:../x")
	n, e := spell.Parse(unsafe.String(&bytes[0], len(bytes)))
	clear(bytes)
	if want := dir(in("name", file("text")), in("other", link("../x"))); !ftree.Same(n, want) || e != api.OK {
		t.Errorf("Parse: names %q, %d", n.Names, e)
	}
	bytes = []byte("nametext")
	name, text := unsafe.String(&bytes[0], 4), unsafe.String(&bytes[4], 4)
	handed := dir(in(name, file(text)))
	shown, _ := spell.Show(handed)
	lines, _ := spell.List(handed)
	alone, _ := spell.Show(file(text))
	clear(bytes)
	if shown != "d1:4:namef4:text" || alone != "f4:text" || !slices.Equal(lines, list("/ d", "/name f text")) {
		t.Errorf("Show = %q and %q; List = %q", shown, alone, lines)
	}
}

// R2: what is answered hangs on the argument alone, whatever was asked before.
func TestSameAnswersAgain(t *testing.T) {
	for range 2 {
		for _, s := range samples() {
			checkNoText(t, s.text+"x")
			checkShow(t, s.node, s.text)
			if _, e := spell.List(link("")); e != api.ErrForm {
				t.Errorf("List of an empty link: %d", e)
			}
		}
	}
}
