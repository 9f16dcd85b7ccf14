package probe_test

import (
	"slices"
	"strings"
	"sync"
	"testing"
	"unsafe"

	"touchstone/api"
	"touchstone/ftree"
	"touchstone/path"
	"touchstone/probe"
)

// someCalls are calls of all utilities, usage among them.
func someCalls() [][]string {
	var all [][]string
	for _, text := range list("echo", "echo ", "echo a", "echo a b", "echo -n  x ", "true", "true a b", ": ]", "false", "false x", "test", "test a", "test ", "test ! a", "test -n a", "test -z a", "test -e f", "test -f to-f", "test -d to-link", "test -L to-itself", "test -h to-d/", "test -e to-itself", "test -e x/y", "test -f d/up/d/f",
		"test a = a", "test a != a", "test ! = !", "test ! -e x", "test ! a = b", "test a b", "test ! -x f", "test a b c d e", "[", "[ ]", "[ a", "[ a ]", "[ -d d ]", "[ -d d", "[ ! -f /d/l ]", "[ a b ]", "[ a = ] ]", "ls a", "", " ") {
		all = append(all, wordsOf(text))
	}
	return append(all, list("echo", "\x00", "\n"), list("test", "-e", "\x00"), list("test", "-e", strings.Repeat("/", api.MaxText)), list("test", "-e", strings.Repeat("/", api.MaxText+1)))
}

// loose is a text over bytes that may be written over.
func loose(text string) (string, []byte) {
	bytes := append([]byte(text), ' ')
	return unsafe.String(&bytes[0], len(text)), bytes
}

// R3: what was handed in is neither changed nor kept: its list, the room behind it, its bytes may be written over, and the
// answer is no other one then.
func TestWritingOverWords(t *testing.T) {
	for _, words := range someCalls() {
		room := make([]string, 0, len(words)+2)
		var under [][]byte
		for _, word := range words {
			text, bytes := loose(word)
			room, under = append(room, text), append(under, bytes)
		}
		room = append(room, "]", "room")
		own := room[:len(words)]
		want := run(sample(t), slices.Clone(words)...)
		got := run(sample(t), own...)
		does, is := probe.Holds(sample(t), own[1:])
		wants, isToo := probe.Holds(sample(t), slices.Clone(words[1:]))
		if got != want || does != wants || is != isToo {
			t.Errorf("%q with room behind: %s, %v, %v; want %s, %v, %v", words, got.text(), does, is, want.text(), wants, isToo)
		}
		if !slices.Equal(own, words) || !slices.Equal(room[len(words):], list("]", "room")) {
			t.Errorf("%q became %q", words, room)
		}
		for i := range room {
			room[i] = "written"
		}
		for _, bytes := range under {
			for i := range bytes {
				bytes[i] = 'w'
			}
		}
		if got != want {
			t.Errorf("%q, written over: %s; want %s", words, got.text(), want.text())
		}
	}
}

// R3: an answer's bytes are its own.
func TestAnswersAreApart(t *testing.T) {
	end := func(s string) uintptr { return uintptr(unsafe.Pointer(unsafe.StringData(s))) + uintptr(len(s)) }
	for _, words := range someCalls() {
		a := run(sample(t), words...)
		for _, answer := range list(a.out, a.err) {
			for _, word := range words {
				if x, y := end(answer), end(word); answer != "" && word != "" && x-uintptr(len(answer)) < y && y-uintptr(len(word)) < x {
					t.Errorf("%q: the answer shares memory with %q", words, word)
				}
			}
		}
	}
}

// spy is a file system that writes down what is asked of it, each thing once. That the root is a directory is known,
// whether it is asked for or not: it is not written down.
type spy struct {
	ftree.FS
	log    []string
	throws string // where this is asked, it is thrown
}

func (s *spy) note(what string, place []string) {
	what += " " + path.Show(place)
	if what == s.throws {
		panic(what)
	}
	if what != "Kind /" && !slices.Contains(s.log, what) {
		s.log = append(s.log, what)
	}
}

func (s *spy) Kind(place []string) uint8 {
	s.note("Kind", place)
	return s.FS.Kind(place)
}

func (s *spy) Text(place []string) string {
	s.note("Text", place)
	return s.FS.Text(place)
}

func (s *spy) Empty(place []string) bool {
	s.note("Empty", place)
	return s.FS.Empty(place)
}

// asked are the words of tests, and what they ask of a file system.
func asked() map[string]string {
	most := strings.Repeat("/", api.MaxText)
	return map[string]string{
		"": "", "f": "", "! f": "", "-n f": "", "-z f": "", "f = f": "", "f != d": "", "! -n f": "", "! f = f": "", "! = f": "",
		"-e f": "Kind /f", "-f f": "Kind /f", "-d f": "Kind /f", "-L f": "Kind /f", "-h f": "Kind /f", "-e x": "Kind /x", "-d d": "Kind /d", "-e /": "", "-e d/f": "Kind /d,Kind /d/f", "-e x/y": "Kind /x", "-f f/x": "Kind /f", "-d d/../e": "Kind /d,Kind /e",
		"-e to-f": "Kind /to-f,Text /to-f,Kind /f", "-d to-f": "Kind /to-f,Text /to-f,Kind /f", "-L to-f": "Kind /to-f", "-h to-f": "Kind /to-f", "-L to-d/": "Kind /to-d,Text /to-d,Kind /d", "-h to-d/l": "Kind /to-d,Text /to-d,Kind /d,Kind /d/l", "-f to-x": "Kind /to-x,Text /to-x,Kind /x", "-e to-itself": "Kind /to-itself,Text /to-itself",
		"! -e f": "Kind /f", "! ! -d d": "Kind /d", "! -L to-f": "Kind /to-f",
		"-f = x": "", "-e = f": "", "! -e = f": "", "-e": "", "! -e": "", "-e f d": "", "-x f": "", "f -e": "", "! -x f": "", "! ! ! -e f": "", "-e f -a -e d": "",
		"-e ": "", "-e f\x00": "", "-L \n": "", "-d d/\n": "", "-e " + most + "f": "", "-f " + most[1:] + "f": "Kind /f",
	}
}

// What is asked of a file system: what the walk of a path needs, and no more, for what is asked may not be known
// (chapter 23).
func TestWhatIsAsked(t *testing.T) {
	for text, want := range asked() {
		s := &spy{FS: sample(t)}
		run(s, append(list("test"), wordsOf(text)...)...)
		first := strings.Join(s.log, ",")
		run(s, append(append(list("["), wordsOf(text)...), "]")...)
		probe.Holds(s, wordsOf(text))
		if got := strings.Join(s.log, ","); got != want || first != want {
			t.Errorf("%.40q: %q, then %q; want %q", text, first, got, want)
		}
	}
	for _, text := range list("echo", "echo f d", "true f", ": f", "false f", "test", "[ -e f", "[ -e f ] ]", "ls f", "", "mkdir q", "-e f") {
		s := &spy{FS: sample(t)}
		if run(s, wordsOf(text)...); len(s.log) > 0 {
			t.Errorf("%s: %q", text, s.log)
		}
	}
}

// What a file system throws goes on to the caller, as chapter 26 needs it.
func TestThrown(t *testing.T) {
	thrownBy := func(call func()) (thrown any) {
		defer func() { thrown = recover() }()
		call()
		return nil
	}
	for text, want := range asked() {
		for _, line := range strings.Split(want, ",") {
			if line == "" {
				continue
			}
			s := &spy{FS: sample(t), throws: line}
			byRun := thrownBy(func() { run(s, append(list("test"), wordsOf(text)...)...) })
			byHolds := thrownBy(func() { probe.Holds(s, wordsOf(text)) })
			if byRun != line || byHolds != line {
				t.Errorf("%s, where %q is thrown: %v, %v", text, line, byRun, byHolds)
			}
		}
	}
}

// R2: calls over file systems of their own don't see one another, also at the same time.
func TestAtTheSameTime(t *testing.T) {
	var wait sync.WaitGroup
	first := sample(t)
	for _, words := range someCalls() {
		want := run(first, words...)
		for range 4 {
			tree := first.Clone()
			wait.Go(func() {
				if got := run(tree, words...); got != want {
					t.Errorf("%q: %s; alone %s", words, got.text(), want.text())
				}
			})
		}
	}
	wait.Wait()
}
