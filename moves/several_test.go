package moves_test

import (
	"strconv"
	"strings"
	"testing"

	"touchstone/api"
	"touchstone/ftree"
)

// P13.1: of several sources some are refused: the others are done all the same, each refused one has its line, in the
// sources' row, and the code is 1.
func TestSeveralSources(t *testing.T) {
	checkRows(t, sample(),
		row{"mv f x g d/f/y e", "x: not there, d/f/y: wrong kind", "+e/f=x +e/g=y -f=x -g=y"},
		row{"mv e f .. to-itself/x to-x e", "e: into itself, ..: bad name, to-itself/x: too many links", "+e/f=x +e/to-x>x -f=x -to-x>x"},
		row{"mv x y z e", "x: not there, y: not there, z: not there", ""},
		row{"mv z y f x e", "z: not there, y: not there, x: not there", "+e/f=x -f=x"},
		row{"mv f d/d d", "d/d: there already", "+d/f=x -d/f=z -f=x"},
		row{"mv / d/d e/. g e", "/: bad name, e/.: bad name", "+e/d/ +e/d/h= +e/g=y -d/d/ -d/d/h= -g=y"},
		row{"mv d d/d/h f e/../d", "d: into itself", "+d/f=x +d/h= -d/d/h= -d/f=z -f=x"},
		row{"cp f d x to-f .. to-x e", "d: wrong kind, x: not there, ..: bad name, to-x: not there", "+e/f=x +e/to-f=x"},
		row{"cp -r x d/d e to-x f/ . g e", "x: not there, e: into itself, f/: wrong kind, .: bad name", "+e/d/ +e/d/h= +e/g=y +e/to-x>x"},
		row{"cp -R d/e x e to-e d/d d", "d/e: there already, x: not there, e: there already, d/d: there already", "+d/to-e>e"},
		row{"ln -s f .. g x/f t/ / e", "..: bad name, x/f: there already, /: bad name", "+e/f>f +e/g>g +e/t>t/"},
		row{"ln -s e f q d", "e: there already, f: there already", "+d/q>q"},
		row{"ln -sf e f q . x/f d", "e: wrong kind, .: bad name", "+d/f>x/f +d/q>q -d/f=z"},
	)
	for _, call := range list("mv", "cp", "cp -r") {
		checkRun(t, sample(), answer{1, "", refusal(call[:2], "", "bad name") + refusal(call[:2], "a\nb", "bad name") + refusal(call[:2], padded("f")+"f", "too large"), true}, "", wordsOf(call, "", "a\nb", padded("f")+"f", "e")...)
	}
	checkRun(t, sample(), answer{1, "", refusal("ln", "", "bad name") + refusal("ln", "a\x00", "bad name") + refusal("ln", padded("f")+"f", "bad name"), true}, "+e/x>x", "ln", "-s", "", "a\x00", "x", padded("f")+"f", "e")
}

// P13.1: where one source's place is another's, or was, or stands in it.
func TestSourcesThatMeet(t *testing.T) {
	checkRows(t, sample(),
		row{"mv f d/f e", "", "+e/f=z -d/f=z -f=x"}, row{"mv d/f f e", "", "+e/f=x -d/f=z -f=x"}, row{"mv f f e", "f: not there", "+e/f=x -f=x"}, row{"mv d/e e .", "e: there already", "-d/e/"},
		row{"mv d/d/h d/d e", "", "+e/d/ +e/h= -d/d/ -d/d/h="}, row{"mv d/d d/d/h e", "d/d/h: not there", "+e/d/ +e/d/h= -d/d/ -d/d/h="}, row{"mv to-f f e", "", "+e/f=x +e/to-f>f -f=x -to-f>f"}, row{"mv f e/f e", "e/f: there already", "+e/f=x -f=x"}, row{"mv f to-f/ e", "to-f/: not there", "+e/f=x -f=x"},
		row{"cp f d/f e", "", "+e/f=z"}, row{"cp f f e", "", "+e/f=x"}, row{"cp f e/f e", "e/f: there already", "+e/f=x"}, row{"cp d/f f d", "d/f: there already", "+d/f=x -d/f=z"}, row{"cp -r d/d d/d e", "d/d: there already", "+e/d/ +e/d/h="}, row{"cp -r d/d/h e/h d/d e", "e/h: there already", "+e/d/ +e/d/h= +e/h="}, row{"cp -r to-f d/../f e/to-f e", "e/to-f: there already", "+e/f=x +e/to-f>f"},
		row{"ln -s f d/f e", "d/f: there already", "+e/f>f"}, row{"ln -sf f d/f e", "", "+e/f>d/f"}, row{"ln -sf f d/f f e", "", "+e/f>f"}, row{"ln -s f f e", "f: there already", "+e/f>f"},
	)
	checkRows(t, nodeOf("p/s/", "q/s/x=", "t/"),
		row{"mv p/s q/s t", "", "+t/s/ +t/s/x= -p/s/ -q/s/ -q/s/x="}, row{"mv q/s p/s t", "p/s: not empty", "+t/s/ +t/s/x= -q/s/ -q/s/x="}, row{"cp -r p/s q/s t", "q/s: there already", "+t/s/"}, row{"mv p p/s t", "p/s: not there", "+t/p/ +t/p/s/ -p/ -p/s/"},
		row{"mv q/s/x q/s p/s t", "", "+t/s/ +t/x= -p/s/ -q/s/ -q/s/x="},
	)
}

// P13.1: a call of as many words as a command may have, and of many more.
func TestManySources(t *testing.T) {
	for _, count := range []int{api.MaxArgs - 2, api.MaxArgs, 500} {
		tree := treeOf(t, nodeOf("a=x", "d/", "e/"))
		words, gone := list(), ""
		for i := range count {
			source := "d/" + strconv.Itoa(1000+i)
			words, gone = append(words, source), gone+refusal("mv", source, "not there")
			tree.Put(strings.Split(source, "/"), api.Node{Kind: api.File, Text: source})
		}
		first, words := tree.Root(), append(words, "e")
		if got := run(tree, append(list("mv"), words...)...); got != done {
			t.Errorf("mv of %d: %s", count, got.text())
		}
		if got := run(tree, append(list("mv"), words...)...); got != (answer{1, "", gone, true}) {
			t.Errorf("mv of %d again: %.100s", count, got.text())
		}
		want := api.Node{Kind: api.Dir, Names: first.Names, Kids: []api.Node{first.Kids[0], {Kind: api.Dir}, first.Kids[1]}}
		if !ftree.Same(tree.Root(), want) {
			t.Errorf("behind mv of %d: %v", count, tree.Root())
		}
	}
}

// P13.1: how many nodes there are, and how deep, is not asked: over trees that are as large as they may be.
func TestTreesAtTheLimits(t *testing.T) {
	wide := api.Node{Kind: api.Dir, Names: list("a"), Kids: []api.Node{{Kind: api.Dir}}}
	for i := range api.MaxNodes - 2 {
		a := &wide.Kids[0]
		a.Names, a.Kids = append(a.Names, strconv.Itoa(10000+i)), append(a.Kids, api.Node{Kind: api.File})
	}
	tree := treeOf(t, wide)
	for i, r := range []row{{"cp -r a b", "", ""}, {"cp -r a b", "", ""}, {"mv a b/a", "", ""}, {"ln -s t x", "", ""}, {"mv b x c", "c: not there", ""}} {
		words := strings.Fields(r.call)
		if got := run(tree, words...); got != wrongBy(words[0], r.wrong) {
			t.Errorf("%d, %s: %s", i, r.call, got.text())
		}
	}
	if got, want := ftree.Nodes(tree.Root()), 1+3*(api.MaxNodes-1)+1; got != want || !ftree.Well(tree.Root()) {
		t.Errorf("there are %d nodes; want %d", got, want)
	}
	way := strings.TrimSuffix(strings.Repeat("d/", api.MaxDepth), "/")
	deep := nodeOf(way+"/", "f=")
	checkRows(t, deep, row{"mv f " + way, "", "+" + way + "/f= -f="}, row{"cp f " + way, "", "+" + way + "/f="}, row{"ln -s f " + way, "", "+" + way + "/f>f"}, row{"mv d " + way, "d: into itself", ""})
}
