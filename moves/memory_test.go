package moves_test

import (
	"slices"
	"strings"
	"sync"
	"testing"
	"unsafe"

	"touchstone/api"
	"touchstone/ftree"
	"touchstone/moves"
	"touchstone/path"
)

// someCalls are calls of all utilities, some of them refused, in part or whole.
func someCalls() [][]string {
	var all [][]string
	for _, text := range list(
		"mv f q", "mv f x g to-f d/f e", "mv -f to-d e/", "mv d e q", "mv f x/y", "mv f", "mv -q f q", "mv d d/d to-link/.", "mv / d", "cp f q", "cp f d x to-f e", "cp -r d e q e", "cp -rfR d/d to-x to-e/", "cp f to-x", "cp", "cp -r to-itself d/q",
		"ln -s t q", "ln -s t u/v x/f d", "ln -sf t/u f", "ln -fs t/f u/l e d", "ln t q", "ln -s -- -f to-d", "ls f q", "ln -s t to-itself/x",
	) {
		all = append(all, strings.Fields(text))
	}
	return append(all, list("mv", ""), list("cp", "a\nb", "f", "e"), list("ln", "-s", "", "\x00", "/\n/x", "e"), list("mv", padded("f"), padded("f")+"f", "e"), list(""))
}

// loose is a text over bytes that may be written over.
func loose(text string) (string, []byte) {
	bytes := []byte(text + " ")
	return unsafe.String(&bytes[0], len(text)), bytes
}

// roomy are words of their own memory, with room behind them, and how to write over all of that.
func roomy(words []string) ([]string, func()) {
	own := make([]string, 0, len(words)+2)
	var bytes [][]byte
	for _, word := range words {
		text, under := loose(word)
		own, bytes = append(own, text), append(bytes, under)
	}
	own = append(own, "-s", "room")[:len(words)]
	return own, func() {
		room := own[:cap(own)]
		for i := range room {
			room[i] = "written"
		}
		for _, under := range bytes {
			for i := range under {
				under[i] = 'w'
			}
		}
	}
}

// keeper is a file system that keeps the places and the texts that it is handed where something is done to it.
type keeper struct {
	ftree.FS
	places [][]string
	copies []string // of the places, as paths
	texts  []string
}

func (k *keeper) keep(places ...[]string) {
	for _, place := range places {
		k.places, k.copies = append(k.places, place), append(k.copies, strings.Clone(path.Show(place)))
	}
}

func (k *keeper) Put(place []string, n api.Node) {
	k.keep(place)
	k.texts = append(k.texts, n.Text)
	k.FS.Put(place, n)
}

func (k *keeper) Del(place []string) {
	k.keep(place)
	k.FS.Del(place)
}

func (k *keeper) Move(from, to []string) {
	k.keep(from, to)
	k.FS.Move(from, to)
}

func (k *keeper) Copy(from, to []string) {
	k.keep(from, to)
	k.FS.Copy(from, to)
}

// checkKept checks that what was handed in is as it was.
func (k *keeper) checkKept(t *testing.T, words, texts []string) {
	t.Helper()
	for i, place := range k.places {
		if path.Show(place) != k.copies[i] {
			t.Errorf("%q, written over: the place %q became %q", words, k.copies[i], place)
		}
	}
	if !slices.Equal(k.texts, texts) {
		t.Errorf("%q, written over: the texts %q became %q", words, texts, k.texts)
	}
}

// R3: what was handed in is neither changed nor kept: its list, the room behind it, its bytes may be written over, and
// neither the answer, nor the tree, nor what the file system was handed, is another one then.
func TestWritingOverWords(t *testing.T) {
	for _, words := range someCalls() {
		tree, want := treeOf(t, sample()), treeOf(t, sample())
		expected := run(want, words...)
		own, write := roomy(words)
		k := &keeper{FS: tree}
		got := run(k, own...)
		if !slices.Equal(own, words) || !slices.Equal(own[len(own):cap(own)], list("-s", "room")) {
			t.Errorf("%q became %q", words, own[:cap(own)])
		}
		var texts []string
		for _, text := range k.texts {
			texts = append(texts, strings.Clone(text))
		}
		write()
		if got != expected || !ftree.Same(tree.Root(), want.Root()) {
			t.Errorf("%q, written over: %s, %v; want %s", words, got.text(), tree.Root(), expected.text())
		}
		k.checkKept(t, words, texts)
	}
}

// R3: the place of one source is not written over by another one's, however deep the directory at the goal is.
func TestPlacesAreApart(t *testing.T) {
	for depth := range api.MaxDepth {
		goal := strings.Repeat("d/", depth+1)
		for _, call := range list("mv", "cp", "cp -r", "ln -s") {
			k := &keeper{FS: treeOf(t, nodeOf("f=x", "g=y", "h=z", goal))}
			words := wordsOf(call, "f", "g", "h", goal)
			if got := run(k, words...); got != done || len(k.places) == 0 {
				t.Errorf("%q: %s", words, got.text())
			}
			k.checkKept(t, words, slices.Clone(k.texts))
		}
	}
}

// piece is memory from one byte on up to another one.
type piece struct{ from, end uintptr }

func pieceOf(s string) piece {
	begin := uintptr(unsafe.Pointer(unsafe.StringData(s)))
	return piece{begin, begin + uintptr(len(s))}
}

// R3: an answer's bytes are its own.
func TestAnswersAreApart(t *testing.T) {
	for _, words := range someCalls() {
		words, _ := roomy(words)
		first, again := run(treeOf(t, sample()), words...), run(treeOf(t, sample()), words...)
		got := pieceOf(first.err)
		for _, other := range append(slices.Clone(words), again.err) {
			if x := pieceOf(other); x.from < got.end && got.from < x.end {
				t.Errorf("%q: the answer shares memory with %q", words, other)
			}
		}
	}
}

// spy is a file system that writes down what is asked of it, and done to it, each thing once. That the root is a
// directory is known, whether it is asked for or not: it is not written down.
type spy struct {
	ftree.FS
	log    []string
	throws string // where this is asked, or done, it is thrown
}

func (s *spy) note(what string, places ...[]string) {
	for _, place := range places {
		what += " " + path.Show(place)
	}
	if what == s.throws {
		panic(what)
	}
	if what != "Kind /" && !slices.Contains(s.log, what) {
		s.log = append(s.log, what)
	}
}

func (s *spy) Kind(p []string) uint8 {
	s.note("Kind", p)
	return s.FS.Kind(p)
}

func (s *spy) Text(p []string) string {
	s.note("Text", p)
	return s.FS.Text(p)
}

func (s *spy) Empty(p []string) bool {
	s.note("Empty", p)
	return s.FS.Empty(p)
}

func (s *spy) Put(p []string, n api.Node) {
	s.note("Put", p)
	s.FS.Put(p, n)
}

func (s *spy) Del(p []string) {
	s.note("Del", p)
	s.FS.Del(p)
}

func (s *spy) Move(from, to []string) {
	s.note("Move", from, to)
	s.FS.Move(from, to)
}

func (s *spy) Copy(from, to []string) {
	s.note("Copy", from, to)
	s.FS.Copy(from, to)
}

// asked are calls, and what they ask and do.
func asked() map[string]string {
	return map[string]string{
		"mv f q": "Kind /q,Kind /f,Move /f /q", "mv f e": "Kind /e,Kind /f,Kind /e/f,Move /f /e/f", "mv f g e": "Kind /e,Kind /f,Kind /e/f,Move /f /e/f,Kind /g,Kind /e/g,Move /g /e/g",
		"mv f q/": "Kind /q", "mv f g q": "Kind /q", "mv f g/": "Kind /g", "mv x y f": "Kind /f", "mv f to-x": "Kind /to-x,Text /to-x,Kind /x,Kind /f,Move /f /to-x", "mv to-f to-e": "Kind /to-e,Text /to-e,Kind /e,Kind /to-f,Kind /e/to-f,Move /to-f /e/to-f",
		"mv x e": "Kind /e,Kind /x", "mv . e": "Kind /e", "mv d e/q": "Kind /e,Kind /e/q,Kind /d,Move /d /e/q", "mv d/e /": "Kind /d,Kind /d/e,Kind /e,Empty /e,Move /d/e /e", "mv d d": "Kind /d",
		"cp f q": "Kind /q,Kind /f,Copy /f /q", "cp to-f q": "Kind /q,Kind /to-f,Text /to-f,Kind /f,Copy /f /q", "cp -r to-f q": "Kind /q,Kind /to-f,Copy /to-f /q", "cp f to-x": "Kind /to-x,Text /to-x,Kind /x", "cp f to-f": "Kind /to-f,Text /to-f,Kind /f", "cp d e": "Kind /e,Kind /d", "cp -r d d": "Kind /d",
		"cp -r d x e": "Kind /e,Kind /d,Kind /e/d,Copy /d /e/d,Kind /x", "cp g f": "Kind /f,Kind /g,Copy /g /f", "cp f q/": "Kind /q",
		"ln -s t q": "Kind /q,Put /q", "ln -s t f": "Kind /f", "ln -s f e": "Kind /e,Kind /e/f,Put /e/f", "ln -sf t f": "Kind /f,Del /f,Put /f", "ln -sf e d": "Kind /d,Kind /d/e", "ln -sf t q": "Kind /q,Put /q", "ln -s .. e": "Kind /e", "ln -sf t to-f": "Kind /to-f,Text /to-f,Kind /f,Del /to-f,Put /to-f",
		"mv f": "", "cp -x f q": "", "ln f q": "", "ls f q": "", "mv f x/q": "Kind /x",
	}
}

// What is asked of a file system, and done to it: first what the goal needs, then what each source needs, in their row,
// and no more, for what is asked may not be known (chapter 23).
func TestWhatIsAsked(t *testing.T) {
	for text, want := range asked() {
		s := &spy{FS: treeOf(t, sample())}
		run(s, strings.Fields(text)...)
		if got := strings.Join(s.log, ","); got != want {
			t.Errorf("%s: %q; want %q", text, got, want)
		}
	}
}

// thrownBy is what a call ends by, or nothing.
func thrownBy(f ftree.FS, words []string) (thrown any) {
	defer func() { thrown = recover() }()
	moves.Run(f, words)
	return nil
}

// What a file system throws goes on to the caller, as chapter 26 needs it.
func TestThrown(t *testing.T) {
	for text, want := range asked() {
		for _, line := range strings.Split(want, ",") {
			s := &spy{FS: treeOf(t, sample()), throws: line}
			if got := thrownBy(s, strings.Fields(text)); line != "" && got != line {
				t.Errorf("%s, where %q is thrown: %v", text, line, got)
			}
		}
	}
	// What was done until then stays done.
	for _, x := range []struct{ call, throws, changed string }{
		{"mv f x g e", "Kind /g", "+e/f=x -f=x"}, {"mv f x g e", "Kind /x", "+e/f=x -f=x"}, {"mv f g e", "Kind /e", ""}, {"cp -r d/d f e", "Copy /f /e/f", "+e/d/ +e/d/h="}, {"ln -sf t/f u d", "Kind /d/u", "+d/f>t/f -d/f=z"}, {"ln -sf t/f d", "Put /d/f", "-d/f=z"},
	} {
		tree := treeOf(t, sample())
		if got := thrownBy(&spy{FS: tree, throws: x.throws}, strings.Fields(x.call)); got != x.throws {
			t.Errorf("%s: thrown: %v", x.call, got)
		}
		if got := changes(flatOf(sample()), flatOf(tree.Root())); got != x.changed {
			t.Errorf("%s, where %q is thrown, changes %q; want %q", x.call, x.throws, got, x.changed)
		}
	}
}

// R2: calls over file systems of their own don't see one another, also at the same time.
func TestAtTheSameTime(t *testing.T) {
	var wait sync.WaitGroup
	first := treeOf(t, sample())
	for _, words := range someCalls() {
		want := first.Clone()
		expected := run(want, words...)
		for range 4 {
			tree := first.Clone()
			wait.Go(func() {
				if got := run(tree, words...); got != expected || !ftree.Same(tree.Root(), want.Root()) {
					t.Errorf("%q: %s; alone %s", words, got.text(), expected.text())
				}
			})
		}
	}
	wait.Wait()
	if !ftree.Same(first.Root(), sample()) {
		t.Errorf("the first tree is %v", first.Root())
	}
}
