package il_test

import (
	"slices"
	"sync"
	"testing"
	"unsafe"

	"touchstone/api"
	"touchstone/il"
)

// loose makes texts and lists whose memory may be written over later.
type loose struct {
	bytes [][]byte
	texts []string
}

// text is the same text over such memory.
func (l *loose) text(s string) string {
	b := append([]byte(s), 'r')
	l.bytes = append(l.bytes, b)
	l.texts = append(l.texts, unsafe.String(&b[0], len(s)))
	return l.texts[len(l.texts)-1]
}

// ins is the same instruction, with room behind each of its lists.
func (l *loose) ins(i api.Ins) api.Ins {
	items, kids := make([]api.Item, 0, len(i.Items)+1), make([]api.Ins, 0, len(i.Kids)+1)
	for _, item := range i.Items {
		parts := make([]api.Part, 0, len(item.Parts)+1)
		for _, p := range item.Parts {
			p.Text = l.text(p.Text)
			parts = append(parts, p)
		}
		items = append(items, api.Item{Parts: append(parts, param("room"))[:len(item.Parts)], Split: item.Split})
	}
	for _, kid := range i.Kids {
		kids = append(kids, l.ins(kid))
	}
	return api.Ins{Kind: i.Kind, Name: l.text(i.Name), Items: append(items, one(param("room")))[:len(i.Items)], Kids: append(kids, assign("room", one(param("room"))))[:len(i.Kids)]}
}

// checkRoom checks that behind an instruction's lists there stands what did.
func checkRoom(t *testing.T, i api.Ins) {
	t.Helper()
	items, kids := i.Items[:len(i.Items)+1], i.Kids[:len(i.Kids)+1]
	room := assign("room", one(param("room")))
	if !il.Same(kids[len(i.Kids)], room) || !il.Same(call(items[len(i.Items)]), call(room.Items...)) {
		t.Errorf("behind the lists of %+v stand %+v, %+v", i, items[len(i.Items)], kids[len(i.Kids)])
	}
	for _, item := range i.Items {
		if p := item.Parts[:len(item.Parts)+1][len(item.Parts)]; p != param("room") {
			t.Errorf("behind the parts of %+v stands %+v", item, p)
		}
	}
	for _, kid := range i.Kids {
		checkRoom(t, kid)
	}
}

// writeOver writes over an instruction's lists, the room behind them, and all texts.
func (l *loose) writeOver(i api.Ins) {
	for _, kid := range i.Kids {
		l.writeOver(kid)
	}
	for _, item := range i.Items {
		clear(item.Parts[:cap(item.Parts)])
	}
	clear(i.Items[:cap(i.Items)])
	clear(i.Kids[:cap(i.Kids)])
	for _, b := range l.bytes {
		for n := range b {
			b[n] = 'W'
		}
	}
}

// answers are what the calls answer of an instruction.
type answers struct {
	may, same          bool
	size               int
	lines, reads, sets []string
	e                  api.Errno
}

func answersOf(i, other api.Ins) answers {
	a := answers{may: il.May(i), same: il.Same(i, other), size: il.Size(i), reads: il.Reads(i), sets: il.Sets(i)}
	a.lines, a.e = il.Show(i)
	return a
}

func (a answers) check(t *testing.T, want answers) {
	t.Helper()
	alike := a.may == want.may && a.same == want.same && a.size == want.size && a.e == want.e
	if !alike || !slices.Equal(a.lines, want.lines) || !slices.Equal(a.reads, want.reads) || !slices.Equal(a.sets, want.sets) {
		t.Errorf("answers: %.500v; want %.500v", a, want)
	}
}

// many are instructions of all sorts.
func many() []api.Ins {
	all := append(someIns(), oneOfEach()...)
	d := dice(99)
	for range 300 {
		all = append(all, d.instruction(1+d.roll(5)).ins)
	}
	return all
}

// R3: what is handed in is neither changed nor kept, nor read behind its end.
func TestWritingOverWhatWasHandedIn(t *testing.T) {
	for _, plain := range many() {
		want := answersOf(plain, plain)
		var l loose
		own := l.ins(plain)
		got := answersOf(own, plain)
		if !il.Same(own, plain) || !il.Same(plain, own) {
			t.Fatalf("%+v became %+v", plain, own)
		}
		checkRoom(t, own)
		l.writeOver(own)
		got.check(t, want)
	}
}

// R3: what is handed out may be written over, its room too; neither another answer shows that, nor what was handed in.
func TestWritingOverAnswers(t *testing.T) {
	for _, i := range many() {
		first, second := answersOf(i, i), answersOf(i, i)
		before := again(i)
		for _, texts := range list(first.lines, first.reads, first.sets) {
			for n, text := range texts[len(texts):cap(texts)] {
				if text != "" {
					t.Errorf("in an answer's room %d stands %q", n, text)
				}
			}
			all := texts[:cap(texts)]
			for n := range all {
				all[n] = "written"
			}
		}
		third := answersOf(i, i)
		third.check(t, second)
		if !il.Same(i, before) {
			t.Fatalf("%+v became %+v", before, i)
		}
	}
}

// R3: no text of an answer has bytes that were handed in, or that are of another answer.
func TestTextsApart(t *testing.T) {
	within := func(a, b string) bool {
		x, y := uintptr(unsafe.Pointer(unsafe.StringData(a))), uintptr(unsafe.Pointer(unsafe.StringData(b)))
		return a != "" && b != "" && x < y+uintptr(len(b)) && y < x+uintptr(len(a))
	}
	for _, plain := range many() {
		var l loose
		own := l.ins(plain)
		a, b := answersOf(own, own), answersOf(own, own)
		names := slices.Concat(a.reads, a.sets, b.reads, b.sets)
		for n, out := range names {
			for _, other := range slices.Concat(l.texts, names[n+1:]) {
				if within(out, other) {
					t.Fatalf("%q shares memory with %q", out, other)
				}
			}
		}
		for _, out := range a.lines {
			for _, in := range l.texts {
				if within(out, in) {
					t.Fatalf("%q shares memory with %q", out, in)
				}
			}
		}
	}
}

// R3: one list that stands in several places is read in each of them, and stays.
func TestPiecesOfOneList(t *testing.T) {
	parts := list(bare("#a"), quoted("b"), bare("~c"), param("x"), bare("#"))
	kept := slices.Clone(parts)
	for n := range len(parts) + 1 {
		for m := n; m <= len(parts); m++ {
			i := call(one(parts[n:m]...), split(parts...), one(parts[n:m]...), split(parts[n:]...))
			kids := list(i, i, assign("y", one(parts[n:m]...)), i)
			checkMay(t, i, true)
			for k := range len(kids) + 1 {
				whole := seq(kids[:k]...)
				checkMay(t, whole, true)
				if il.Size(whole) != k+1 {
					t.Errorf("Size(%+v) = %d", whole, il.Size(whole))
				}
			}
			if !slices.Equal(parts, kept) {
				t.Fatalf("parts became %+v", parts)
			}
		}
	}
}

// R2: an answer hangs on nothing but the arguments: calls leave nothing behind, also those at the same time.
func TestSameAnswersAgain(t *testing.T) {
	all := many()
	var wants []answers
	for n, i := range all {
		wants = append(wants, answersOf(i, all[(n+1)%len(all)]))
	}
	var wait sync.WaitGroup
	for range 4 {
		wait.Go(func() {
			for n, i := range all {
				answersOf(i, all[(n+1)%len(all)]).check(t, wants[n])
			}
		})
	}
	wait.Wait()
}
