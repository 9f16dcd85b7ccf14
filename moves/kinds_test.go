package moves_test

import (
	"maps"
	"strings"
	"testing"

	"touchstone/api"
	"touchstone/ftree"
	"touchstone/path"
)

// call is a utility's call without its operands: its name, and the options that are told.
type call struct{ name, set string }

func callOf(text string) call {
	name, set, _ := strings.Cut(text, " -")
	return call{name, set}
}

func (c call) has(option string) bool { return strings.Contains(c.set, option) }

// words are a call's words with these operands.
func (c call) words(operands ...string) []string {
	words := list(c.name)
	if c.set != "" {
		words = append(words, "-"+c.set)
	}
	return append(append(words, "--"), operands...)
}

// sends has a source, by its text, or by the key of what is moved or copied, go to a key.
func (f flat) sends(c call, source, from, to string) {
	part := f.part(from)
	switch c.name {
	case "mv":
		f.del(from)
	case "ln":
		part = flat{"": ">" + source}
	}
	f.put(to, part)
}

// checkOutcome checks a call of one source: it goes to a place, or it is refused (told by ! and the reason's word), or the
// goal is (told by ? and that word).
func checkOutcome(t *testing.T, root api.Node, c call, source, from, goal, outcome string) {
	t.Helper()
	tree, then, want := treeOf(t, root), flatOf(root), done
	switch outcome[0] {
	case '!':
		want = refusedBy(c.name, source, outcome[1:])
	case '?':
		want = refusedBy(c.name, goal, outcome[1:])
	default:
		then.sends(c, source, "/"+from, "/"+outcome)
	}
	got := run(tree, c.words(source, goal)...)
	if is := flatOf(tree.Root()); got != want || !maps.Equal(is, then) || !ftree.Well(tree.Root()) {
		t.Errorf("%+v %q %q: %s, changes %q; want %s, changes %q", c, source, goal, got.text(), changes(flatOf(root), is), want.text(), changes(flatOf(root), then))
	}
}

// kindRow are calls, sources, and the outcome at each goal, in which * stands for the source's last name, _ for a blank.
// What goes is the source, or, if it is told, what stands at follows.
type kindRow struct{ calls, sources, follows, outcomes string }

func checkKinds(t *testing.T, root api.Node, goals string, rows ...kindRow) {
	t.Helper()
	for _, r := range rows {
		outcomes := strings.Fields(r.outcomes)
		for i, goal := range strings.Fields(goals) {
			for _, source := range strings.Fields(r.sources) {
				last, _ := path.Last(source)
				outcome := strings.NewReplacer("*", last, "_", " ").Replace(outcomes[i])
				from := source
				if r.follows != "" {
					from = r.follows
				}
				for _, text := range strings.Split(r.calls, ", ") {
					checkOutcome(t, root, callOf(text), source, from, goal, outcome)
				}
			}
		}
	}
}

// P13.1: each utility with each kind of source (a file, a directory with names, an empty one, a link to each of them, and
// one that leads nowhere), and with each kind of goal (nothing, and these).
func TestKinds(t *testing.T) {
	root := nodeOf("s/F=x", "s/D/a=1", "s/D/b/", "s/E/", "s/LF>F", "s/LD>D", "s/LE>E", "s/LX>X", "f=y", "d/q=", "e/", "lf>f", "ld>d", "le>e", "lx>n")
	links, all := "s/LF s/LD s/LE s/LX", "s/F s/D s/E s/LF s/LD s/LE s/LX s/X"
	wrong := "!wrong_kind !wrong_kind !wrong_kind !wrong_kind !wrong_kind !wrong_kind !wrong_kind ?not_there"
	checkKinds(t, root, "n f d e lf ld le lx",
		kindRow{"mv, mv -f", "s/F " + links, "", "n f d/* e/* lf d/* e/* lx"},
		kindRow{"mv, mv -f", "s/D s/E", "", "n !wrong_kind d/* e/* !wrong_kind d/* e/* !wrong_kind"},
		kindRow{"cp, cp -f", "s/F s/LF", "s/F", "n f d/* e/* f d/* e/* ?not_there"},
		kindRow{"cp, cp -f", "s/D s/E s/LD s/LE", "", wrong},
		kindRow{"cp, cp -f", "s/LX s/X", "", strings.ReplaceAll(wrong, "!wrong_kind", "!not_there")},
		kindRow{"cp -r, cp -R, cp -Rf, cp -Rr", "s/F " + links, "", "n f d/* e/* f d/* e/* ?not_there"},
		kindRow{"cp -r, cp -R, cp -fr, cp -rR", "s/D s/E", "", "n !there_already d/* e/* !there_already d/* e/* ?not_there"},
		kindRow{"ln -s", all, "", "n !there_already d/* e/* !there_already d/* e/* !there_already"},
		kindRow{"ln -sf", all, "", "n f d/* e/* lf d/* e/* lx"},
	)
}

// P13.1: each utility with each kind of source into a directory in which, by its last name, stands nothing, a file, a
// directory with names, an empty one, or a link.
func TestKindsInDirectories(t *testing.T) {
	root := nodeOf("F/S=x", "D/S/a=1", "D/S/b/", "E/S/", "L/S>/F/S", "n/", "f/S=y", "d/S/q=", "e/S/", "l/S>/n")
	all := "F/S D/S E/S L/S X/S"
	checkKinds(t, root, "n f d e l",
		kindRow{"mv, mv -f", "F/S L/S", "", "n/* f/* !wrong_kind !wrong_kind l/*"},
		kindRow{"mv, mv -f", "D/S E/S", "", "n/* !wrong_kind !not_empty e/* !wrong_kind"},
		kindRow{"cp, cp -f", "F/S L/S", "F/S", "n/* f/* !wrong_kind !wrong_kind !wrong_kind"},
		kindRow{"cp, cp -f", "D/S E/S", "", "!wrong_kind !wrong_kind !wrong_kind !wrong_kind !wrong_kind"},
		kindRow{"cp -r, cp -R, cp -rf", "F/S L/S", "", "n/* f/* !wrong_kind !wrong_kind !wrong_kind"},
		kindRow{"cp -r, cp -R, cp -Rf", "D/S E/S", "", "n/* !there_already !there_already !there_already !there_already"},
		kindRow{"ln -s", all, "", "n/* !there_already !there_already !there_already !there_already"},
		kindRow{"ln -sf", all, "", "n/* f/* !wrong_kind !wrong_kind l/*"},
	)
}
