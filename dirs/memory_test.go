package dirs_test

import (
	"slices"
	"strings"
	"sync"
	"testing"
	"unsafe"

	"touchstone/api"
	"touchstone/dirs"
	"touchstone/ftree"
	"touchstone/path"
)

// someCalls are calls of all utilities, some of them refused, in part or whole.
func someCalls() [][]string {
	var all [][]string
	for _, call := range list(
		"mkdir x", "mkdir d/x f x/y x", "mkdir -p x/y/z d/e", "mkdir -p x/../f y", "mkdir -q x", "mkdir", "mkdir to-d/x to-x/", "mkdir -p to-dx/y", "rmdir e d/e d", "rmdir to-e/ x", "touch x to-x d/x f/", "touch to-f e",
		"rm f d x to-d", "rm -f x f", "rm -r d e x", "rm -rf d x /", "rm -r -f -- to-dd/f -f", "rm", "rm -f", "ls x", "rm to-itself/x \xff",
	) {
		all = append(all, strings.Fields(call))
	}
	return append(all, list("mkdir", ""), list("touch", "a\nb", "x"), list("rm", "-f", strings.Repeat("/", api.MaxText+1), "f"), list(""))
}

// loose is a text over bytes that may be written over.
func loose(text string) (string, []byte) {
	bytes := []byte(text + " ")
	return unsafe.String(&bytes[0], len(text)), bytes
}

// roomy are words of their own memory, with room behind them, and how to write over all of that.
func roomy(words []string) ([]string, func()) {
	own := make([]string, 0, len(words)+2)
	var bytes [][]byte
	for _, word := range words {
		text, under := loose(word)
		own, bytes = append(own, text), append(bytes, under)
	}
	own = append(own, "-f", "room")[:len(words)]
	return own, func() {
		room := own[:cap(own)]
		for i := range room {
			room[i] = "written"
		}
		for _, under := range bytes {
			for i := range under {
				under[i] = 'w'
			}
		}
	}
}

// keeper is a file system that keeps the places that it is handed where something is done to it.
type keeper struct {
	ftree.FS
	kept   [][]string
	copies []string
}

func (k *keeper) keep(place []string) {
	k.kept, k.copies = append(k.kept, place), append(k.copies, strings.Clone(path.Show(place)))
}

func (k *keeper) Put(place []string, n api.Node) {
	k.keep(place)
	k.FS.Put(place, n)
}

func (k *keeper) Del(place []string) {
	k.keep(place)
	k.FS.Del(place)
}

// R3: what was handed in is neither changed nor kept: its list, the room behind it, its bytes may be written over, and
// neither the answer, nor the tree, nor what the file system was handed, is another one then.
func TestWritingOverWords(t *testing.T) {
	for _, words := range someCalls() {
		tree, want := treeOf(t, sample()), treeOf(t, sample())
		expected := run(want, words...)
		own, write := roomy(words)
		k := &keeper{FS: tree}
		got := run(k, own...)
		if !slices.Equal(own, words) || !slices.Equal(own[len(own):cap(own)], list("-f", "room")) {
			t.Errorf("%q became %q", words, own[:cap(own)])
		}
		write()
		if got != expected || !ftree.Same(tree.Root(), want.Root()) {
			t.Errorf("%q, written over: %s, %v; want %s", words, got.text(), tree.Root(), expected.text())
		}
		for i, place := range k.kept {
			if path.Show(place) != k.copies[i] {
				t.Errorf("%q, written over: the place %q became %q", words, k.copies[i], place)
			}
		}
	}
}

// piece is memory from one byte on up to another one.
type piece struct{ from, end uintptr }

func pieceOf(s string) piece {
	begin := uintptr(unsafe.Pointer(unsafe.StringData(s)))
	return piece{begin, begin + uintptr(len(s))}
}

// R3: an answer's bytes are its own.
func TestAnswersAreApart(t *testing.T) {
	for _, words := range someCalls() {
		words, _ := roomy(words)
		first, again := run(treeOf(t, sample()), words...), run(treeOf(t, sample()), words...)
		got := pieceOf(first.err)
		for _, other := range append(slices.Clone(words), again.err) {
			if x := pieceOf(other); x.from < got.end && got.from < x.end {
				t.Errorf("%q: the answer shares memory with %q", words, other)
			}
		}
	}
}

// spy is a file system that writes down what is asked of it, and done to it, each thing once. That the root is a
// directory is known, whether it is asked for or not: it is not written down.
type spy struct {
	ftree.FS
	log    []string
	throws string // where this is asked, or done, it is thrown
}

func (s *spy) note(what string, place []string) {
	line := what + " " + path.Show(place)
	if line == s.throws {
		panic(line)
	}
	if line != "Kind /" && !slices.Contains(s.log, line) {
		s.log = append(s.log, line)
	}
}

func (s *spy) Kind(p []string) uint8 {
	s.note("Kind", p)
	return s.FS.Kind(p)
}

func (s *spy) Text(p []string) string {
	s.note("Text", p)
	return s.FS.Text(p)
}

func (s *spy) Empty(p []string) bool {
	s.note("Empty", p)
	return s.FS.Empty(p)
}

func (s *spy) Put(p []string, n api.Node) {
	s.note("Put", p)
	s.FS.Put(p, n)
}

func (s *spy) Del(p []string) {
	s.note("Del", p)
	s.FS.Del(p)
}

func (s *spy) Move(from, to []string) { s.note("Move", from) }
func (s *spy) Copy(from, to []string) { s.note("Copy", from) }

// asked are calls, and what they ask and do.
func asked() map[string]string {
	return map[string]string{
		"mkdir z": "Kind /z,Put /z", "mkdir d/z": "Kind /d,Kind /d/z,Put /d/z", "mkdir d": "Kind /d", "mkdir to-d": "Kind /to-d", "mkdir f/z": "Kind /f", "mkdir /": "", "mkdir to-d/z": "Kind /to-d,Text /to-d,Kind /d,Kind /d/z,Put /d/z",
		"mkdir -p d/z/y": "Kind /d,Kind /d/z,Put /d/z,Kind /d/z/y,Put /d/z/y", "mkdir -p d/e": "Kind /d,Kind /d/e", "mkdir -p f/z": "Kind /f", "mkdir -p /": "", "mkdir -p z/../e": "Kind /z,Put /z,Kind /e",
		"rmdir e": "Kind /e,Empty /e,Del /e", "rmdir d": "Kind /d,Empty /d", "rmdir f": "Kind /f", "rmdir z": "Kind /z", "rmdir /": "", "rmdir to-e/": "Kind /to-e,Text /to-e,Kind /e,Empty /e,Del /e",
		"touch z": "Kind /z,Put /z", "touch z/": "Kind /z", "touch f": "Kind /f", "touch d": "Kind /d", "touch to-f": "Kind /to-f,Text /to-f,Kind /f", "touch to-x": "Kind /to-x,Text /to-x,Kind /x", "touch /": "",
		"rm f": "Kind /f,Del /f", "rm d": "Kind /d", "rm z": "Kind /z", "rm to-d": "Kind /to-d,Del /to-d", "rm -f z/z": "Kind /z", "rm -r d": "Kind /d,Del /d", "rm -r d/e": "Kind /d,Kind /d/e,Del /d/e", "rm -rf z": "Kind /z", "rm -rf /": "", "rm -f": "",
		"rm": "", "rm -x f": "", "mkdir": "", "ls f": "", "rmdir e z": "Kind /e,Empty /e,Del /e,Kind /z",
	}
}

// What is asked of a file system, and done to it: what the chapter's table names for each utility, and no more, for what
// is asked may not be known (chapter 23).
func TestWhatIsAsked(t *testing.T) {
	for call, want := range asked() {
		s := &spy{FS: treeOf(t, sample())}
		run(s, strings.Fields(call)...)
		if got := strings.Join(s.log, ","); got != want {
			t.Errorf("%s: %q; want %q", call, got, want)
		}
	}
}

// thrownBy is what a call ends by, or nothing.
func thrownBy(f ftree.FS, words []string) (thrown any) {
	defer func() { thrown = recover() }()
	dirs.Run(f, words)
	return nil
}

// What a file system throws goes on to the caller, as chapter 26 needs it.
func TestThrown(t *testing.T) {
	for call, want := range asked() {
		for _, line := range strings.Split(want, ",") {
			s := &spy{FS: treeOf(t, sample()), throws: line}
			if got := thrownBy(s, strings.Fields(call)); line != "" && got != line {
				t.Errorf("%s, where %q is thrown: %v", call, line, got)
			}
		}
	}
	// What was done until then stays done.
	tree := treeOf(t, sample())
	if got := thrownBy(&spy{FS: tree, throws: "Kind /d/z"}, list("mkdir", "x", "d/z", "y")); got != "Kind /d/z" {
		t.Errorf("thrown: %v", got)
	}
	if got := changes(flatOf(sample()), flatOf(tree.Root())); got != "+x/" {
		t.Errorf("until then: %q", got)
	}
}

// R2: calls over file systems of their own don't see one another, also at the same time.
func TestAtTheSameTime(t *testing.T) {
	var wait sync.WaitGroup
	first := treeOf(t, sample())
	for _, words := range someCalls() {
		want := first.Clone()
		expected := run(want, words...)
		for range 4 {
			tree := first.Clone()
			wait.Go(func() {
				if got := run(tree, words...); got != expected || !ftree.Same(tree.Root(), want.Root()) {
					t.Errorf("%q: %s; alone %s", words, got.text(), expected.text())
				}
			})
		}
	}
	wait.Wait()
	if !ftree.Same(first.Root(), sample()) {
		t.Errorf("the first tree is %v", first.Root())
	}
}
