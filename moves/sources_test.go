package moves_test

import (
	"strings"
	"testing"

	"touchstone/api"
	"touchstone/ftree"
)

// goers are the calls whose sources are paths.
func goers() []string { return list("mv", "mv -f", "cp", "cp -f", "cp -r", "cp -R") }

// checkSources checks that each source is refused in these calls, wherever it should go to, and that nothing is changed.
func checkSources(t *testing.T, why string, calls, goals []string, sources ...string) {
	t.Helper()
	for _, call := range calls {
		for _, goal := range goals {
			for _, source := range sources {
				checkRun(t, sample(), refusedBy(call[:2], source, why), "", wordsOf(call, source, goal)...)
			}
		}
	}
}

// anywhere are goals of each kind at which one source is not refused.
func anywhere() []string { return list("q", "g", "d", "e", "to-f", "to-d", "to-e", "/", "d/q", "d/e/") }

// P13.1: a source that path.Check refuses, whatever is wrong on its way, too.
func TestSourcesThatAreNoPaths(t *testing.T) {
	checkSources(t, "bad name", goers(), anywhere(), noPaths()...)
	checkSources(t, "too large", goers(), anywhere(), largePaths()...)
}

// P13.1: sources of as many bytes as a path may have, and of as many as a name may have.
func TestLongestSources(t *testing.T) {
	for _, source := range list(padded("f"), "./"+padded("f")[2:], "d/.."+padded("f")[4:]) {
		checkRun(t, sample(), done, "+q=x -f=x", "mv", source, "q")
		checkRun(t, sample(), done, "+e/f=x -f=x", "mv", source, "e")
		checkRun(t, sample(), done, "+q=x", "cp", source, "q")
		checkRun(t, sample(), done, "+e/f=x", "cp", "-r", source, "e")
	}
	name := strings.Repeat("n", api.MaxName)
	for _, call := range goers() {
		checkRun(t, sample(), refusedBy(call[:2], name, "not there"), "", wordsOf(call, name, "q")...)
		checkRun(t, sample(), refusedBy(call[:2], padded("x"), "not there"), "", wordsOf(call, padded("x"), "q")...)
	}
	checkRun(t, nodeOf(name+"=x", "d/"), done, "+d/"+name+"=x -"+name+"=x", "mv", name, "d")
	checkRun(t, nodeOf(name+"=x", "d/"), done, "+d/"+name+"=x", "cp", name, "d/"+name)
}

// P13.1: a source whose way is refused.
func TestSourcesOnRefusedWays(t *testing.T) {
	checkSources(t, "wrong kind", goers(), anywhere(), "f/", "f/.", "f/x", "f/..", "f/../g", "d/f/x", "to-f/", "to-fx/", "to-fx/x", "d/l/x")
	checkSources(t, "not there", goers(), anywhere(), "x/y", "x/y/z", "x/..", "x/../f", "d/x/y", "to-x/y", "to-x/..", "to-xy/", "to-xy/z", "e/x/..")
	checkSources(t, "too many links", goers(), anywhere(), "to-itself/", "to-itself/.", "to-itself/x", "to-itself/..", "d/up/to-itself/f")
	checkSources(t, "wrong kind", list("cp", "cp -f"), anywhere(), "to-fx", "d/up/to-fx")
	checkSources(t, "not there", list("cp", "cp -f"), anywhere(), "to-xy", "to-x-slash")
	checkSources(t, "too many links", list("cp", "cp -f"), anywhere(), "to-itself", "to-root/to-itself")
}

// P13.1: a source where nothing stands; also where it has no last name, or its link leads nowhere.
func TestSourcesThatAreNotThere(t *testing.T) {
	checkSources(t, "not there", goers(), anywhere(), "x", "/x", "x/", "x//", "x/.", "d/x", "e/x", "to-d/x", "to-x/", "to-x/.", "to-dx/", "d/../x", "d/up/x")
	checkSources(t, "not there", list("cp", "cp -f"), anywhere(), "to-x", "to-dx", "d/up/to-x")
}

// P13.1: a source without a last name is refused, where it should go into a directory; else it goes.
func TestSourcesWithoutALastName(t *testing.T) {
	directories := list("d", "e", "/", "..", "to-d", "d/e", "e/", "to-link/.")
	checkSources(t, "bad name", list("mv", "mv -f", "cp", "cp -r", "cp -R", "ln -s", "ln -sf"), directories, "..", ".", "/", "//", "./.", "../..", "d/..", "e/.", "e/..", "d/e/.", "d/./", "to-d/..", "to-root/.")
	checkSources(t, "not empty", list("mv"), list("q", "f", "d/q", "to-x"), "/", ".", "..", "d/..", "to-root/", "e/..")
	checkSources(t, "wrong kind", list("cp"), list("q", "f", "d/q"), "/", ".", "..", "d/.", "e/..", "to-root/")
	checkSources(t, "into itself", list("cp -r", "cp -R"), list("q", "f", "d/q", "e/q"), "/", ".", "..", "d/..", "to-root/", "e/..")
	checkRows(t, sample(),
		row{"mv e/. q", "", "+q/ -e/"}, row{"mv d/e/. q", "", "+q/ -d/e/"}, row{"mv d/d/../d q", "", "+q/ +q/h= -d/d/ -d/d/h="}, row{"mv e/. f", "e/.: wrong kind", ""},
		row{"cp -r e/. q", "", "+q/"}, row{"cp -r d/d/. q", "", "+q/ +q/h="}, row{"cp -R d/e/.. q", "", "+q/ +q/d/ +q/d/h= +q/e/ +q/f=z +q/l>f +q/up>.."},
		row{"ln -s .. q", "", "+q>.."}, row{"ln -s / q", "", "+q>/"}, row{"ln -s d/.. q", "", "+q>d/.."}, row{"ln -sf . f", "", "+f>. -f=x"},
	)
}

// P13.1: the last name of a source in the directory is its own, not that of where it leads to.
func TestLastNames(t *testing.T) {
	checkRows(t, sample(),
		row{"mv d/e/ e", "", "+e/e/ -d/e/"}, row{"mv d/f e/", "", "+e/f=z -d/f=z"}, row{"mv to-d/d e", "", "+e/d/ +e/d/h= -d/d/ -d/d/h="}, row{"mv to-e/ d", "", "+d/to-e/ -e/"}, row{"mv to-e d", "", "+d/to-e>e -to-e>e"}, row{"mv d/up/g e", "", "+e/g=y -g=y"},
		row{"cp to-f e", "", "+e/to-f=x"}, row{"cp d/l e", "", "+e/l=z"}, row{"cp -r to-e/ d", "", "+d/to-e/"}, row{"cp -r to-dx e", "", "+e/to-dx>d/x"}, row{"cp -R //d//d// e", "", "+e/d/ +e/d/h="},
		row{"ln -s ../f e", "", "+e/f>../f"}, row{"ln -s x/ e", "", "+e/x>x/"}, row{"ln -s /a//b// e", "", "+e/b>/a//b//"}, row{"ln -s ... e", "", "+e/...>..."}, row{"ln -s x/y/../z e", "", "+e/z>x/y/../z"},
	)
}

// P13.1: mv of a place to itself, into itself, above itself, and of the root, and to the root.
func TestMvAndItself(t *testing.T) {
	checkRows(t, sample(),
		row{"mv f f", "f: there already", ""}, row{"mv f /./f", "f: there already", ""}, row{"mv d/f d", "d/f: there already", ""}, row{"mv f .", "f: there already", ""}, row{"mv d .", "d: there already", ""}, row{"mv e /", "e: there already", ""}, row{"mv d/d/h d/d", "d/d/h: there already", ""},
		row{"mv to-f to-f", "to-f: there already", ""}, row{"mv to-x to-x", "to-x: there already", ""}, row{"mv to-d/f d", "to-d/f: there already", ""}, row{"mv d/f to-d/f", "d/f: there already", ""}, row{"mv to-d to-d/..", "to-d: there already", ""}, row{"mv d/l to-d", "d/l: there already", ""},
		row{"mv to-itself to-itself", "to-itself: too many links", ""}, row{"mv to-itself .", "to-itself: there already", ""}, row{"mv x x", "x: not there", ""},
		row{"mv d d", "d: into itself", ""}, row{"mv e e", "e: into itself", ""}, row{"mv e e/", "e: into itself", ""}, row{"mv e/ e/x", "e/: into itself", ""}, row{"mv d d/x", "d: into itself", ""}, row{"mv d d/e", "d: into itself", ""}, row{"mv d d/d", "d: into itself", ""}, row{"mv d d/f", "d: into itself", ""}, row{"mv d to-d", "d: into itself", ""}, row{"mv to-d/ d/e", "to-d/: into itself", ""}, row{"mv d d/x/y", "d/x/y: not there", ""},
		row{"mv to-d to-d", "", "+d/to-d>d -to-d>d"}, row{"mv to-d d", "", "+d/to-d>d -to-d>d"}, row{"mv f to-f", "", "+to-f=x -f=x -to-f>f"}, row{"mv to-f f", "", "+f>f -f=x -to-f>f"},
		row{"mv d/d .", "d/d: not empty", ""}, row{"mv d/d/h d", "", "+d/h= -d/d/h="}, row{"mv d/e .", "", "-d/e/"}, row{"mv d/d/h d/d/..", "", "+d/h= -d/d/h="},
		row{"mv / x", "/: not empty", ""}, row{"mv / f", "/: not empty", ""}, row{"mv / /", "/: bad name", ""}, row{"mv . d", ".: bad name", ""}, row{"mv / x/y", "x/y: not there", ""}, row{"mv to-root/ q", "to-root/: not empty", ""}, row{"mv to-root q", "", "+q>/ -to-root>/"}, row{"mv to-root/ d", "to-root/: not empty", ""},
		row{"mv d/f /", "", "+f=z -d/f=z -f=x"}, row{"mv d/up ..", "", "+up>.. -d/up>.."}, row{"mv d/d/h to-root", "", "+h= -d/d/h="}, row{"mv d/d /", "d/d: not empty", ""},
	)
	deep := nodeOf("a/a/a=")
	checkRows(t, deep, row{"mv a/a .", "a/a: not empty", ""}, row{"mv a/a/a .", "a/a/a: wrong kind", ""}, row{"mv a/a/a a", "a/a/a: wrong kind", ""}, row{"mv a/a/a a/a/b", "", "+a/a/b= -a/a/a="})
	checkRows(t, nodeOf(), row{"mv / x", "/: not empty", ""}, row{"mv . .", ".: bad name", ""}, row{"mv x /", "x: not there", ""})
}

// P13.1: cp of a place to itself, into itself, above itself, and of the root, and to the root.
func TestCpAndItself(t *testing.T) {
	for _, call := range list("cp", "cp -r", "cp -R") {
		checkSources(t, "there already", list(call), list(".", "/", "to-root", "d/.."), "f", "/f", "d/../g", "d/up/f")
		checkSources(t, "there already", list(call), list("f", "./f", "to-f"), "f", "to-d/../f")
	}
	checkSources(t, "there already", list("cp -r"), list("."), "d", "e", "to-f", "to-d", "to-itself", "to-e")
	checkSources(t, "there already", list("cp"), list(".", "to-root"), "d", "e", "d/up/d")
	checkSources(t, "wrong kind", list("cp"), list("q", "d", "e", "d/e", "f"), "d", "e", "to-d", "to-e", "to-root")
	checkSources(t, "into itself", list("cp -r", "cp -R"), list("d", "d/q", "d/e", "d/d", "d/f", "to-d", "d/e/q"), "d", "/d/", "to-d/../d")
	checkRows(t, sample(),
		row{"cp to-f f", "to-f: there already", ""}, row{"cp -r to-f f", "", "+f>f -f=x"}, row{"cp -r to-f to-f", "", "+f>f -f=x"}, row{"cp -r to-d to-d", "", "+d/to-d>d"}, row{"cp to-x to-x", "to-x: not there", ""},
		row{"cp -r d/d .", "d/d: there already", ""}, row{"cp -r d/d/h .", "", "+h="}, row{"cp d/f /", "", "+f=z -f=x"}, row{"cp -r d/e /", "d/e: there already", ""}, row{"cp -r d/up /", "", "+up>.."}, row{"cp -r / /", "/: bad name", ""},
	)
}

// P13.1: cp of a link: without r and R what it leads to is copied, with one of them the link.
func TestCpOfLinks(t *testing.T) {
	checkRows(t, sample(), row{"cp to-f q", "", "+q=x"}, row{"cp d/l q", "", "+q=z"}, row{"cp to-d q", "to-d: wrong kind", ""}, row{"cp to-e q", "to-e: wrong kind", ""}, row{"cp to-root q", "to-root: wrong kind", ""}, row{"cp to-x q", "to-x: not there", ""}, row{"cp to-fx q", "to-fx: wrong kind", ""}, row{"cp to-itself q", "to-itself: too many links", ""})
	for _, call := range list("cp -r ", "cp -R ", "cp -rR ", "cp -fr ") {
		for source, text := range map[string]string{"to-f": "f", "to-d": "d", "to-e": "e", "to-x": "x", "to-fx": "f/x", "to-xy": "x/y", "to-root": "/", "to-itself": "to-itself", "to-d-slash": "d/", "d/l": "f", "to-d/up": ".."} {
			checkRows(t, sample(), row{call + source + " q", "", "+q>" + text})
		}
		checkRows(t, sample(), row{call + "to-e/ q", "", "+q/"}, row{call + "to-d/d q", "", "+q/ +q/h="}, row{call + "to-x/ q", "to-x/: not there", ""}, row{call + "to-f/ q", "to-f/: wrong kind", ""}, row{call + "to-e/. d/q", "", "+d/q/"})
	}
}

// P13.3: cp again comes to the same of a file; a directory, or a link, that is there now is in its own way, where it is a
// directory into which it went.
func TestCpTwice(t *testing.T) {
	for _, x := range []struct {
		call          string
		first, second string // what is changed; ! and the reason's word, if it is refused
	}{
		{"cp f q", "+q=x", ""}, {"cp f g", "+g=x -g=y", ""}, {"cp f e", "+e/f=x", ""}, {"cp f d", "+d/f=x -d/f=z", ""}, {"cp to-f g", "+g=x -g=y", ""}, {"cp -r f e", "+e/f=x", ""}, {"cp g to-f", "+f=y -f=x", ""},
		{"cp -r d e", "+e/d/ +e/d/d/ +e/d/d/h= +e/d/e/ +e/d/f=z +e/d/l>f +e/d/up>..", "!there already"}, {"cp -r e d/d", "+d/d/e/", "!there already"}, {"cp -R d/d /to-e/", "+e/d/ +e/d/h=", "!there already"},
		{"cp -r to-f e", "+e/to-f>f", "!wrong kind"}, {"cp -r to-d q", "+q>d", "+d/to-d>d"},
		{"cp -r e q", "+q/", "+q/e/"}, {"cp -r d/d q", "+q/ +q/h=", "+q/d/ +q/d/h="}, {"cp -r e d", "!there already", "!there already"}, {"cp e q", "!wrong kind", "!wrong kind"},
	} {
		tree := treeOf(t, sample())
		words := strings.Fields(x.call)
		for _, want := range list(x.first, x.second) {
			before, answer := flatOf(tree.Root()), done
			if why, refused := strings.CutPrefix(want, "!"); refused {
				answer, want = refusedBy("cp", words[len(words)-2], why), ""
			}
			if got := run(tree, words...); got != answer {
				t.Errorf("%s: %s; want %s", x.call, got.text(), answer.text())
			}
			if got := changes(before, flatOf(tree.Root())); got != want {
				t.Errorf("%s changes %q; want %q", x.call, got, want)
			}
		}
	}
	// A directory that went to a place where nothing stood is a goal of its own then; from then on it is refused, too.
	tree := treeOf(t, nodeOf("d/e=", "q/"))
	for i, want := range []answer{done, done, refusedBy("cp", "d", "there already"), refusedBy("cp", "d", "there already")} {
		if got := run(tree, "cp", "-r", "d", "p"); got != want {
			t.Errorf("cp %d: %s; want %s", i, got.text(), want.text())
		}
	}
	if got := changes(flatOf(nodeOf("d/e=", "q/")), flatOf(tree.Root())); got != "+p/ +p/d/ +p/d/e= +p/e=" {
		t.Errorf("cp again and again: %q", got)
	}
}

// P13.1: the texts of links: not empty, without a byte 00, and not too long; else whatever bytes, no path is asked for.
func TestTextsOfLinks(t *testing.T) {
	long := strings.Repeat("n", api.MaxName+1)
	for _, call := range list("ln -s", "ln -sf") {
		for _, text := range list("", "\x00", "a\x00", "\x00a", "d/\x00/f", strings.Repeat("x", api.MaxText+1), strings.Repeat("/", api.MaxText)+"x", strings.Repeat("x", 100000), strings.Repeat("x", api.MaxText-1)+"\x00", strings.Repeat("x", api.MaxText)+"\x00") {
			for _, goal := range list("q", "f", "e", "to-f", "to-x", "d", "/") {
				checkRun(t, sample(), refusedBy("ln", text, "bad name"), "", wordsOf(call, text, goal)...)
			}
		}
		for _, text := range list("x", "f", "a\nb", "\n", "\n/", long, "d/"+long+"/x", strings.Repeat("x", api.MaxText), padded("x"), padded("f"), " ", "\xff", "..", "/", "f/x", "q", "to-itself/x", "x/y/z", "%s", "a\tb") {
			tree := treeOf(t, sample())
			if got := run(tree, wordsOf(call, "--", text, "q")...); got != done || tree.Text(list("q")) != text || tree.Kind(list("q")) != api.Link {
				t.Errorf("%s %q q: %s, the text %q", call, text, got.text(), tree.Text(list("q")))
			}
		}
		for _, text := range list("a\nb", "\n", long, "d/"+long, strings.Repeat("x", api.MaxText), "..", "/", "x/..") {
			checkRun(t, sample(), refusedBy("ln", text, "bad name"), "", wordsOf(call, text, "e")...)
		}
		checkRun(t, sample(), done, "+e/x>"+padded("x"), wordsOf(call, padded("x"), "e")...)
		checkRun(t, sample(), done, "+e/x>\n/x/", wordsOf(call, "\n/x/", "e")...)
		checkRun(t, sample(), done, "+e/x>"+long+"/x", wordsOf(call, long+"/x", "e")...)
	}
}

// P13.1: ln with f where nothing stands, a file, a link, a directory.
func TestLnF(t *testing.T) {
	checkRows(t, sample(),
		row{"ln -sf t q", "", "+q>t"}, row{"ln -sf q q", "", "+q>q"}, row{"ln -sf t d/q", "", "+d/q>t"}, row{"ln -sf t e", "", "+e/t>t"},
		row{"ln -sf t f", "", "+f>t -f=x"}, row{"ln -sf f f", "", "+f>f -f=x"}, row{"ln -sf t/f d", "", "+d/f>t/f -d/f=z"}, row{"ln -sf f /", "", "+f>f -f=x"},
		row{"ln -sf t to-f", "", "+to-f>t -to-f>f"}, row{"ln -sf f to-f", "", ""}, row{"ln -sf t to-x", "", "+to-x>t -to-x>x"}, row{"ln -sf t/l d", "", "+d/l>t/l -d/l>f"}, row{"ln -sf t/to-itself .", "", "+to-itself>t/to-itself -to-itself>to-itself"}, row{"ln -sf t/to-d .", "", "+to-d>t/to-d -to-d>d"},
		row{"ln -sf t/e d", "t/e: wrong kind", ""}, row{"ln -sf t/d /", "t/d: wrong kind", ""}, row{"ln -sf d .", "d: wrong kind", ""}, row{"ln -sf e e/..", "e: wrong kind", ""}, row{"ln -sf t d/e/", "", "+d/e/t>t"}, row{"ln -sf t to-d", "", "+d/t>t"}, row{"ln -sf t to-itself", "to-itself: too many links", ""},
	)
}

// forgetful is a file system in which a directory out of which something is taken is no more.
type forgetful struct{ ftree.FS }

func (f forgetful) Del(place []string) { f.FS.Del(place[:len(place)-1]) }

// stubborn is a file system in which a directory is where something was taken away.
type stubborn struct{ ftree.FS }

func (s stubborn) Del(place []string) { s.FS.Put(place, api.Node{Kind: api.Dir}) }

// P13.1, P13.4: what ln with f unlinked stays unlinked, if the making is refused.
func TestUnlinkedStaysUnlinked(t *testing.T) {
	for _, x := range []struct {
		over    func(ftree.FS) ftree.FS
		goal    string
		why     string
		changed string
	}{
		{func(f ftree.FS) ftree.FS { return forgetful{f} }, "d/d/h", "not there", "-d/d/ -d/d/h="},
		{func(f ftree.FS) ftree.FS { return stubborn{f} }, "d/l", "there already", "+d/l/ -d/l>f"},
		{func(f ftree.FS) ftree.FS { return stubborn{f} }, "g", "there already", "+g/ -g=y"},
	} {
		tree := treeOf(t, sample())
		if got := run(x.over(tree), "ln", "-sf", "t", x.goal); got != refusedBy("ln", "t", x.why) {
			t.Errorf("ln -sf t %s: %s; want %s", x.goal, got.text(), x.why)
		}
		if got := changes(flatOf(sample()), flatOf(tree.Root())); got != x.changed {
			t.Errorf("ln -sf t %s changes %q; want %q", x.goal, got, x.changed)
		}
	}
}

// P13.1: each reason's word by a line of each utility that can tell it, of a goal and of a source.
func TestReasonsOfUtilities(t *testing.T) {
	large := padded("x") + "x"
	for _, r := range []row{
		{"mv f x/y", "x/y: not there", ""}, {"mv x q", "x: not there", ""}, {"mv f f", "f: there already", ""}, {"mv f g/", "g/: wrong kind", ""}, {"mv d f", "d: wrong kind", ""}, {"mv d/d .", "d/d: not empty", ""}, {"mv d d", "d: into itself", ""},
		{"mv f to-itself", "to-itself: too many links", ""}, {"mv to-itself/x q", "to-itself/x: too many links", ""}, {"mv f " + large, large + ": too large", ""}, {"mv " + large + " q", large + ": too large", ""}, {"mv f \x00", "\x00: bad name", ""}, {"mv .. d", "..: bad name", ""},
		{"cp f x/y", "x/y: not there", ""}, {"cp x q", "x: not there", ""}, {"cp f f", "f: there already", ""}, {"cp f g/", "g/: wrong kind", ""}, {"cp d q", "d: wrong kind", ""}, {"cp -r d d", "d: into itself", ""}, {"cp -r d f", "d: there already", ""},
		{"cp f to-itself", "to-itself: too many links", ""}, {"cp to-itself q", "to-itself: too many links", ""}, {"cp f " + large, large + ": too large", ""}, {"cp " + large + " q", large + ": too large", ""}, {"cp f \x00", "\x00: bad name", ""}, {"cp f .. d", "..: bad name", "+d/f=x -d/f=z"},
		{"ln -s t x/y", "x/y: not there", ""}, {"ln -s t f", "t: there already", ""}, {"ln -s t g/", "g/: wrong kind", ""}, {"ln -sf e d", "e: wrong kind", ""}, {"ln -s t to-itself", "to-itself: too many links", ""}, {"ln -s t " + large, large + ": too large", ""}, {"ln -s t \x00", "\x00: bad name", ""}, {"ln -s " + large + " q", large + ": bad name", ""},
	} {
		checkRows(t, sample(), r)
	}
}

// P13.1: a line has its operand as it was told, whatever bytes it has.
func TestOperandsInLines(t *testing.T) {
	for operand, why := range map[string]string{
		"x: y": "not there", " ": "not there", "\t/..": "not there", "//x//": "not there", "./x/.": "not there", "\xff\xfe": "not there", "%s%d": "not there", "\\n": "not there", "*": "not there", "mv: x: not there": "not there", "é": "not there",
		"a\nb": "bad name", "\n": "bad name", "a\x00b": "bad name", "": "bad name",
	} {
		for _, call := range goers() {
			checkRun(t, sample(), refusedBy(call[:2], operand, why), "", wordsOf(call, operand, "q")...)
			checkRun(t, sample(), refusedBy(call[:2], operand, why), "", wordsOf(call, "f", "g", operand)...)
		}
		checkRun(t, sample(), refusedBy("ln", operand, why), "", "ln", "-s", "t", "u", operand)
	}
}
