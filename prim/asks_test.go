package prim_test

import (
	"slices"
	"strings"
	"testing"

	"touchstone/api"
	"touchstone/ftree"
	"touchstone/path"
)

// spy is a file system that writes down what is asked of it, and done to it, each thing once. That the root is a
// directory is known, whether it is asked for or not: it is not written down.
type spy struct {
	ftree.FS
	log    []string
	throws string // where this is asked, or done, it is thrown
}

func (s *spy) note(what string, places ...[]string) {
	if what == "Kind" && len(places[0]) == 0 {
		return
	}
	line := what
	for _, p := range places {
		line += " " + path.Show(p)
	}
	if line == s.throws {
		panic(line)
	}
	if !slices.Contains(s.log, line) || changes(line) {
		s.log = append(s.log, line)
	}
}

// changes tells whether something is done to a file system by a line of a log.
func changes(line string) bool {
	what, _, _ := strings.Cut(line, " ")
	return slices.Contains(place("Put", "Del", "Move", "Copy"), what)
}

func (s *spy) Kind(p []string) uint8 {
	s.note("Kind", p)
	return s.FS.Kind(p)
}

func (s *spy) Text(p []string) string {
	s.note("Text", p)
	return s.FS.Text(p)
}

func (s *spy) Empty(p []string) bool {
	s.note("Empty", p)
	return s.FS.Empty(p)
}

func (s *spy) Put(p []string, n api.Node) {
	s.note("Put", p)
	s.FS.Put(p, n)
}

func (s *spy) Del(p []string) {
	s.note("Del", p)
	s.FS.Del(p)
}

func (s *spy) Move(from, to []string) {
	s.note("Move", from, to)
	s.FS.Move(from, to)
}

func (s *spy) Copy(from, to []string) {
	s.note("Copy", from, to)
	s.FS.Copy(from, to)
}

// asked is a call of the sample's, and what it asks and does.
type asked struct {
	c    call
	want string
}

// of makes a call of a text: its name and its places. A ! behind the name of Copy: with deep.
func of(text string) call {
	words := strings.Fields(text)
	what, deep := strings.CutSuffix(words[0], "!")
	c := call{what: what, deep: deep, text: "t"}
	c.from = places(words[1])[0]
	if len(words) > 2 {
		c.to = places(words[2])[0]
	}
	return c
}

// askedOfOne are calls of one place, askedOfTwo those of two: what they ask, and what they do.
func askedOfOne() []asked {
	bad := of("MakeFile d/z")
	bad.text = "\x00"
	none := of("MakeLink d/f")
	none.text = ""
	return []asked{
		{of("MakeDir z"), "Kind /z,Put /z"}, {of("MakeDir d/z"), "Kind /d,Kind /d/z,Put /d/z"}, {of("MakeDir d/f"), "Kind /d,Kind /d/f"}, {of("MakeDir f/z"), "Kind /f"}, {of("MakeDir l/f"), "Kind /l"}, {of("MakeDir z/z"), "Kind /z"}, {of("MakeDir d/d/z"), "Kind /d/d,Kind /d/d/z,Put /d/d/z"},
		{of("MakeDir .."), ""}, {of("MakeDir d/.."), ""}, {of("MakeDir d/"), ""}, {of("MakeDir z/."), ""}, {of("MakeDir /"), ""},
		{of("MakeFile d/z"), "Kind /d,Kind /d/z,Put /d/z"}, {of("MakeLink d/z"), "Kind /d,Kind /d/z,Put /d/z"}, {bad, "Kind /d"}, {none, "Kind /d"}, {of("MakeFile f/z"), "Kind /f"}, {of("MakeLink d/l"), "Kind /d,Kind /d/l"},
		{of("Touch d/z"), "Kind /d,Kind /d/z,Put /d/z"}, {of("Touch d/f"), "Kind /d,Kind /d/f"}, {of("Touch d/l"), "Kind /d,Kind /d/l"}, {of("Touch d/e"), "Kind /d,Kind /d/e"}, {of("Touch z/z"), "Kind /z"}, {of("Touch /"), ""},
		{of("RemoveDir d/e"), "Kind /d,Kind /d/e,Empty /d/e,Del /d/e"}, {of("RemoveDir d/d"), "Kind /d,Kind /d/d,Empty /d/d"}, {of("RemoveDir d/f"), "Kind /d,Kind /d/f"}, {of("RemoveDir l"), "Kind /l"}, {of("RemoveDir z"), "Kind /z"}, {of("RemoveDir z/z"), "Kind /z"}, {of("RemoveDir /"), ""},
		{of("Unlink d/f"), "Kind /d,Kind /d/f,Del /d/f"}, {of("Unlink l"), "Kind /l,Del /l"}, {of("Unlink d/e"), "Kind /d,Kind /d/e"}, {of("Unlink d"), "Kind /d"}, {of("Unlink z"), "Kind /z"}, {of("Unlink /"), ""},
		{of("RemoveAll d"), "Kind /d,Del /d"}, {of("RemoveAll d/e"), "Kind /d,Kind /d/e,Del /d/e"}, {of("RemoveAll d/f"), "Kind /d,Kind /d/f,Del /d/f"}, {of("RemoveAll z"), "Kind /z"}, {of("RemoveAll f/z"), "Kind /f"}, {of("RemoveAll /"), ""},
	}
}

func askedOfTwo() []asked {
	return []asked{
		{of("Rename f z"), "Kind /f,Kind /z,Move /f /z"}, {of("Rename d/f e/z"), "Kind /d,Kind /e,Kind /d/f,Kind /e/z,Move /d/f /e/z"}, {of("Rename f d/f"), "Kind /d,Kind /f,Kind /d/f,Move /f /d/f"},
		{of("Rename f/z d/z"), "Kind /f"}, {of("Rename .. d/z"), ""}, {of("Rename d/f f/z"), "Kind /d,Kind /f"}, {of("Rename d/f .."), "Kind /d"}, {of("Rename d/z e/z"), "Kind /d,Kind /e,Kind /d/z"}, {of("Rename d/z d/z"), "Kind /d,Kind /d/z"},
		{of("Rename d/f d/f"), "Kind /d,Kind /d/f"}, {of("Rename / /"), ""}, {of("Rename / d/z"), "Kind /d"}, {of("Rename / z"), ""}, {of("Rename d d/z"), "Kind /d"}, {of("Rename d d/e"), "Kind /d"},
		{of("Rename f e"), "Kind /f,Kind /e"}, {of("Rename f d"), "Kind /f,Kind /d"}, {of("Rename d f"), "Kind /d,Kind /f"}, {of("Rename e d"), "Kind /e,Kind /d,Empty /d"}, {of("Rename d e"), "Kind /d,Kind /e,Empty /e,Move /d /e"}, {of("Rename f /"), "Kind /f"},
		{of("Copy f z"), "Kind /f,Kind /z,Copy /f /z"}, {of("Copy! d/d e/z"), "Kind /d,Kind /e,Kind /d/d,Kind /e/z,Copy /d/d /e/z"}, {of("Copy l f"), "Kind /l,Kind /f,Copy /l /f"}, {of("Copy d/f e/z"), "Kind /d,Kind /e,Kind /d/f,Kind /e/z,Copy /d/f /e/z"},
		{of("Copy f/z d/z"), "Kind /f"}, {of("Copy! .. d/z"), ""}, {of("Copy d/f f/z"), "Kind /d,Kind /f"}, {of("Copy d/z e/z"), "Kind /d,Kind /e,Kind /d/z"}, {of("Copy d/z d/z"), "Kind /d,Kind /d/z"}, {of("Copy d/f d/f"), "Kind /d,Kind /d/f"},
		{of("Copy d z"), "Kind /d"}, {of("Copy d/e e/z"), "Kind /d,Kind /e,Kind /d/e"}, {of("Copy! d d/e"), "Kind /d"}, {of("Copy / z"), ""}, {of("Copy! / z"), ""}, {of("Copy! / /"), ""},
		{of("Copy! e d"), "Kind /e,Kind /d"}, {of("Copy! e f"), "Kind /e,Kind /f"}, {of("Copy f l"), "Kind /f,Kind /l"}, {of("Copy f e"), "Kind /f,Kind /e"}, {of("Copy! l d"), "Kind /l,Kind /d"},
	}
}

// What a call asks, and does, in its row.
func TestWhatIsAsked(t *testing.T) {
	for _, x := range slices.Concat(askedOfOne(), askedOfTwo()) {
		s := &spy{FS: treeOf(t, sample())}
		x.c.on(s)
		if got := strings.Join(s.log, ","); got != x.want {
			t.Errorf("%+v: %q; want %q", x.c, got, x.want)
		}
	}
}

// thrownBy is what a call ends by, or nothing.
func thrownBy(c call, f ftree.FS) (thrown any) {
	defer func() { thrown = recover() }()
	c.on(f)
	return nil
}

// What a file system throws a call ends by: whatever it throws at of what the call asks and does, nothing was changed.
func TestThrown(t *testing.T) {
	for _, x := range slices.Concat(askedOfOne(), askedOfTwo()) {
		log := strings.Split(x.want, ",")
		if x.want == "" {
			log = nil
		}
		for _, line := range log {
			tree := treeOf(t, sample())
			if got := thrownBy(x.c, &spy{FS: tree, throws: line}); got != line {
				t.Errorf("%+v, where %q is thrown: %v", x.c, line, got)
			}
			if !ftree.Same(tree.Root(), sample()) {
				t.Errorf("%+v, where %q is thrown, leaves %v", x.c, line, tree.Root())
			}
		}
		for _, line := range place("Kind /q", "Empty /", "Text /f", "Text /d/f", "Text /l", "Empty /f", "Kind /d/d/f", "Del /d/z", "Put /", "Del /") {
			tree := treeOf(t, sample())
			if got := thrownBy(x.c, &spy{FS: tree, throws: line}); (got != nil) != slices.Contains(log, line) {
				t.Errorf("%+v, where %q is thrown: %v", x.c, line, got)
			}
		}
	}
}

// oracle is a file system of which any Kinds are told, also such as no tree has.
type oracle struct {
	kinds map[string]uint8
	empty bool
}

func (o *oracle) Kind(p []string) uint8 {
	if len(p) == 0 {
		return api.Dir
	}
	return o.kinds[path.Show(p)]
}

func (o *oracle) Empty([]string) bool    { return o.empty }
func (o *oracle) Text([]string) string   { return "" }
func (o *oracle) Put([]string, api.Node) {}
func (o *oracle) Del([]string)           {}
func (o *oracle) Move(from, to []string) {}
func (o *oracle) Copy(from, to []string) {}

// namedBy are the places of which a call may ask, but the root, as texts.
func namedBy(c call) []string {
	var all []string
	for _, p := range [][]string{c.from, c.to} {
		for _, x := range [][]string{p, p[:max(0, len(p)-1)]} {
			if text := path.Show(x); len(x) > 0 && !slices.Contains(all, text) {
				all = append(all, text)
			}
		}
	}
	return all
}

// eachWorld calls with every file system of those Kinds at places.
func eachWorld(at []string, do func(o *oracle)) {
	o := &oracle{kinds: map[string]uint8{}}
	var goOn func(left []string)
	goOn = func(left []string) {
		if len(left) == 0 {
			o.empty = false
			do(o)
			o.empty = true
			do(o)
			return
		}
		for kind := api.Absent; kind <= api.Link; kind++ {
			o.kinds[left[0]] = kind
			goOn(left[1:])
		}
	}
	goOn(at)
}

// changeOf is what a call does to a file system that is not refused.
func changeOf(w answers, c call) string {
	from, to := path.Show(c.from), path.Show(c.to)
	switch c.what {
	case "MakeDir", "MakeFile", "MakeLink":
		return "Put " + from
	case "Touch":
		if w.Kind(c.from) == api.Absent {
			return "Put " + from
		}
		return ""
	case "Rename":
		return "Move " + from + " " + to
	case "Copy":
		return "Copy " + from + " " + to
	}
	return "Del " + from
}

// checkWorld checks a call's answer, what it asks and what it does, against the chapter's table.
func checkWorld(t *testing.T, c call, o *oracle) {
	t.Helper()
	want, got := &spy{FS: o}, &spy{FS: o}
	e := errorOf(want, c)
	if change := changeOf(o, c); e == api.OK && change != "" {
		want.log = append(want.log, change)
	}
	if answer := c.on(got); answer != e || !slices.Equal(got.log, want.log) {
		t.Fatalf("%+v over %v, empty %v: %d, %q; want %d, %q", c, o.kinds, o.empty, answer, got.log, e, want.log)
	}
}

// P10.1, P10.2: the row of the errors, and of what is asked, over file systems of any Kinds.
func TestOverAnyKinds(t *testing.T) {
	from := places("/", "a", "b", "a/b", "c/b", "a/b/c", "..", "a/.", "")
	to := slices.Concat(from, places("a/c", "b/c", "a/b/d", "a/b/c/d", "d/.."))
	for _, a := range from {
		for _, c := range callsOfOne() {
			for _, text := range place("t", "", "\x00") {
				c := c.at(a, nil)
				c.text = text
				eachWorld(namedBy(c), func(o *oracle) { checkWorld(t, c, o) })
			}
		}
		for _, b := range to {
			for _, c := range callsOfTwo() {
				c := c.at(a, b)
				eachWorld(namedBy(c), func(o *oracle) { checkWorld(t, c, o) })
			}
		}
	}
}
