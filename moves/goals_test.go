package moves_test

import (
	"slices"
	"strconv"
	"strings"
	"testing"

	"touchstone/api"
)

// before are calls of each utility without the goal, of one source, and of several; some of the sources are refused too.
func before() []string {
	return list("mv f", "mv -f d", "mv x", "mv f g", "mv x to-itself/y e", "cp f", "cp -r d", "cp x", "cp d", "cp f g", "cp -R e x d", "ln -s t", "ln -sf t", "ln -s t f", "ln -sf t u f")
}

// checkGoals checks that a goal is refused in all calls: one line, and nothing else is done.
func checkGoals(t *testing.T, why string, calls []string, goals ...string) {
	t.Helper()
	for _, call := range calls {
		for _, goal := range goals {
			checkRun(t, sample(), refusedBy(call[:2], goal, why), "", wordsOf(call, goal)...)
		}
	}
}

// noPaths are operands that path.Check refuses as bad names.
func noPaths() []string {
	long := strings.Repeat("n", api.MaxName+1)
	return list("", "\x00", "\n", "x\x00", "\x00x", "x\n", "\nx", "f\x00", "d\n", "d/\x00", "d/\n", "d/x\n/y", "f/\n", "x/y/\n", "to-itself/\n", "\n/..", "\x00/../d", "../\n",
		long, long+"/", "/"+long, "d/"+long, long+"/..", "to-itself/"+long, "d/../"+long,
		strings.Repeat("x", api.MaxText)+"\x00", "\x00"+strings.Repeat("/", api.MaxText), strings.Repeat("x", api.MaxText), strings.Repeat("/", api.MaxText-1)+"\n")
}

// largePaths are operands that path.Check refuses as too large.
func largePaths() []string {
	return list(strings.Repeat("/", api.MaxText+1), strings.Repeat("/", api.MaxText)+"x", strings.Repeat("/", api.MaxText)+"d", strings.Repeat("./", api.MaxText/2)+".", "d"+strings.Repeat("/", api.MaxText), "f"+strings.Repeat("/", api.MaxText),
		strings.Repeat("x", api.MaxText+1), strings.Repeat("x", 100000), "\n"+strings.Repeat("/", api.MaxText), strings.Repeat("../", 100)+"d", strings.Repeat("d/../", 60)+"f")
}

// padded is a path of as many bytes as one may have.
func padded(end string) string { return strings.Repeat("/", api.MaxText-len(end)) + end }

// P13.1: a goal that path.Check refuses.
func TestGoalsThatAreNoPaths(t *testing.T) {
	checkGoals(t, "bad name", before(), noPaths()...)
	checkGoals(t, "too large", before(), largePaths()...)
}

// P13.1: goals of as many bytes as a path may have, and of as many as a name may have.
func TestLongestGoals(t *testing.T) {
	name := strings.Repeat("n", api.MaxName)
	for _, goal := range list(padded("x"), "x", "./"+padded("x")[2:]) {
		checkRun(t, sample(), done, "+x=x -f=x", "mv", "f", goal)
		checkRun(t, sample(), done, "+x=x", "cp", "f", goal)
		checkRun(t, sample(), done, "+x>f", "ln", "-s", "f", goal)
	}
	for _, goal := range list(padded("e"), "e"+strings.Repeat("/", api.MaxText-1), padded("e/.")) {
		checkRun(t, sample(), done, "+e/f=x +e/g=y -f=x -g=y", "mv", "f", "g", goal)
		checkRun(t, sample(), done, "+e/f=x +e/g=y", "cp", "f", "g", goal)
		checkRun(t, sample(), done, "+e/f>f +e/g>g", "ln", "-s", "f", "g", goal)
	}
	for _, goal := range list(name, "d/../"+name, padded(name)) {
		checkRun(t, sample(), done, "+"+name+"=x -f=x", "mv", "f", goal)
		checkRun(t, sample(), done, "+"+name+"/", "cp", "-r", "e", goal)
		checkRun(t, sample(), done, "+"+name+">t", "ln", "-s", "t", goal)
	}
}

// P13.1: a goal whose way is refused.
func TestGoalsOnRefusedWays(t *testing.T) {
	checkGoals(t, "wrong kind", before(), "f/", "f/.", "f//", "f/x", "f/x/y", "f/..", "f/../e", "d/f/x", "d/l/x", "to-f/", "to-f/x", "to-fx", "to-fx/", "to-fx/x")
	checkGoals(t, "not there", before(), "x/y", "x/y/z", "x/..", "x/../e", "d/x/y", "e/x/", "to-x/y", "to-x/..", "to-dx/y", "to-xy", "to-xy/", "to-xy/z", "to-x-slash/y")
	checkGoals(t, "too many links", before(), "to-itself", "to-itself/", "to-itself/.", "to-itself/x", "to-itself/..", "d/up/to-itself", "to-root/to-itself/..")
}

// P13.1: of several sources the goal must be a directory: a file is the wrong kind, of nothing it is told that it is not
// there; of one source both may be.
func TestGoalsOfSeveral(t *testing.T) {
	several := list("mv f d/f", "mv -f d x e", "mv x y", "cp f d/f", "cp -r d e", "cp x y z", "ln -s t u", "ln -sf t u v", "ln -s f f")
	checkGoals(t, "wrong kind", several, "g", "/g", "./g", "d/../g", "d/d/h", "to-f", "d/l", "to-d/d/h")
	checkGoals(t, "not there", several, "x", "/x", "d/x", "e/x", "to-x", "to-dx", "to-x-slash", "x/", "x/.", "to-x/", "to-d/x/", "to-root/x")
	checkRows(t, sample(),
		row{"mv f g", "", "+g=x -f=x -g=y"}, row{"mv f x", "", "+x=x -f=x"},
		row{"cp f g", "", "+g=x -g=y"}, row{"cp f x", "", "+x=x"},
		row{"ln -sf t g", "", "+g>t -g=y"}, row{"ln -s t x", "", "+x>t"},
	)
}

// P13.1: a goal that asks for a directory, of one source.
func TestGoalsThatAskForADirectory(t *testing.T) {
	one := list("mv f", "mv e", "mv to-d", "mv x", "cp f", "cp -r d", "cp x", "ln -s t", "ln -sf t")
	checkGoals(t, "not there", one, "x/", "x//", "x/.", "x/./", "/x/", "d/x/", "to-d/x/.", "to-x/", "to-x/.", "to-dx/", "to-x-slash/")
	for _, goal := range list("e/", "e//", "e/.", "/e/", "d/e/../../e", "to-e/", "to-e/.", "to-root/e/") {
		checkRun(t, sample(), done, "+e/f=x -f=x", "mv", "f", goal)
		checkRun(t, sample(), done, "+e/f=x", "cp", "f", goal)
		checkRun(t, sample(), done, "+e/f>f", "ln", "-s", "f", goal)
	}
	for _, goal := range list("d/d/..", "to-d/", "to-d/e/..", "d/.", "to-d-slash", "to-d-slash/", "to-link/", "to-root/d") {
		checkRun(t, sample(), done, "+d/g=y -g=y", "mv", "g", goal)
		checkRun(t, sample(), done, "+d/g=y", "cp", "g", goal)
		checkRun(t, sample(), done, "+d/g>g", "ln", "-s", "g", goal)
	}
}

// P13.1: a goal at a link: where a directory is found, sources go into it; else mv and ln have the link give way, cp what
// it leads to, if it leads to something.
func TestGoalsAtLinks(t *testing.T) {
	for _, goal := range list("to-d", "to-link", "to-d-slash", "./to-d", "d/../to-link", "d/up/to-d") {
		for _, r := range []row{{"mv g", "", "+d/g=y -g=y"}, {"mv f", "", "+d/f=x -d/f=z -f=x"}, {"cp g", "", "+d/g=y"}, {"cp -r to-f", "", "+d/to-f>f"}, {"ln -s t", "", "+d/t>t"}, {"ln -s f", "f: there already", ""}, {"mv e", "", "-e/"}, {"mv f g", "", "+d/f=x +d/g=y -d/f=z -f=x -g=y"}} {
			checkRows(t, sample(), row{r.call + " " + goal, r.wrong, r.changed})
		}
	}
	for _, r := range []struct{ goal, gone string }{{"to-x", "-to-x>x"}, {"to-dx", "-to-dx>d/x"}, {"to-x-slash", "-to-x-slash>x/"}} {
		checkRows(t, sample(),
			row{"mv f " + r.goal, "", "+" + r.goal + "=x -f=x " + r.gone}, row{"mv to-d " + r.goal, "", "+" + r.goal + ">d -to-d>d " + r.gone}, row{"mv e " + r.goal, "e: wrong kind", ""}, row{"mv x " + r.goal, "x: not there", ""},
			row{"cp f " + r.goal, r.goal + ": not there", ""}, row{"cp -r f " + r.goal, r.goal + ": not there", ""}, row{"cp -R to-d " + r.goal, r.goal + ": not there", ""}, row{"cp -rf e " + r.goal, r.goal + ": not there", ""}, row{"cp x " + r.goal, r.goal + ": not there", ""},
			row{"ln -s t " + r.goal, "t: there already", ""}, row{"ln -sf t " + r.goal, "", "+" + r.goal + ">t " + r.gone},
		)
	}
	checkRows(t, sample(),
		row{"mv g to-f", "", "+to-f=y -g=y -to-f>f"}, row{"mv d to-f", "d: wrong kind", ""}, row{"mv f to-f", "", "+to-f=x -f=x -to-f>f"},
		row{"cp g to-f", "", "+f=y -f=x"}, row{"cp -r g to-f", "", "+f=y -f=x"}, row{"cp -r to-d to-f", "", "+f>d -f=x"}, row{"cp f to-f", "f: there already", ""}, row{"cp -r e to-f", "e: there already", ""},
		row{"ln -s t to-f", "t: there already", ""}, row{"ln -sf t to-f", "", "+to-f>t -to-f>f"},
		row{"mv d/f to-root", "", "+f=z -d/f=z -f=x"}, row{"cp d/d/h d/up", "", "+h="}, row{"ln -s t/q to-root", "", "+q>t/q"},
	)
}

// P13.1: as many links as are followed on the way, and one more, in the goal and in a source: through one after another,
// and through several on the way.
func TestLinksOnTheWay(t *testing.T) {
	tree := treeOf(t, sample())
	text := "d"
	for i := range api.MaxLinks + 1 {
		name := "c" + strconv.Itoa(i+1)
		tree.Put(list(name), api.Node{Kind: api.Link, Text: text})
		text = name
	}
	root := tree.Root()
	last, more := "c"+strconv.Itoa(api.MaxLinks), "c"+strconv.Itoa(api.MaxLinks+1)
	around := strings.Repeat("c1/../", api.MaxLinks-1)
	for _, way := range list(last, last+"/", "c3/../c2/../c3", around+"c1") {
		checkRun(t, root, done, "+d/g=y -g=y", "mv", "g", way)
		checkRun(t, root, done, "+d/g=y", "cp", "g", way)
		checkRun(t, root, done, "+d/g>g", "ln", "-s", "g", way)
		checkRun(t, root, done, "+x=z -d/f=z", "mv", way+"/f", "x")
		checkRun(t, root, done, "+x=z", "cp", way+"/f", "x")
		checkRun(t, root, done, "+x=z", "cp", "-r", way+"/f", "x")
	}
	for _, way := range list(more, more+"/", "c3/../c2/../c4", around+"c2", last+"/../c1") {
		checkRun(t, root, refusedBy("mv", way, "too many links"), "", "mv", "g", way)
		checkRun(t, root, refusedBy("cp", way, "too many links"), "", "cp", "-r", "g", "f", way)
		checkRun(t, root, refusedBy("ln", way, "too many links"), "", "ln", "-sf", "g", way)
		for _, call := range list("mv", "cp", "cp -r") {
			checkRun(t, root, refusedBy(call[:2], way+"/f", "too many links"), "", wordsOf(call, way+"/f", "x")...)
		}
	}
	// A link at the end counts where it is followed alone.
	checkRun(t, root, done, "+x>"+last+" -"+more+">"+last, "mv", more, "x")
	checkRun(t, root, done, "+x>"+last, "cp", "-r", more, "x")
	checkRun(t, root, refusedBy("cp", more, "too many links"), "", "cp", more, "x")
	checkRun(t, root, refusedBy("cp", last, "wrong kind"), "", "cp", last, "x")
}

// P13.1: where the goal leads to is looked at once, ahead of all: what is done to the links on the way changes nothing of
// it.
func TestGoalIsLookedAtOnce(t *testing.T) {
	tree := nodeOf("d/", "l>d", "a=x", "b=y")
	for _, goal := range list("l", "l/", "./l/.", "d/../l") {
		checkRun(t, tree, done, "+d/a=x +d/b=y +d/l>d -a=x -b=y -l>d", "mv", "a", "l", "b", goal)
		checkRun(t, tree, done, "+d/b=y +d/l>d -b=y -l>d", "mv", "l", "b", goal)
	}
	// The link on the way becomes another one.
	tree = nodeOf("o/l>.", "n/l>../q", "q/", "a=x", "b=y")
	checkRun(t, tree, done, "+o/a=x +o/b=y +o/l>../q -a=x -b=y -n/l>../q -o/l>.", "mv", "a", "n/l", "b", "o/l")
	checkRun(t, tree, done, "+o/a>a +o/b>b +o/l>q/l -o/l>.", "ln", "-sf", "a", "q/l", "b", "o/l")
	checkRun(t, tree, answer{1, "", refusal("mv", "o/l", "there already") + refusal("mv", "n/l/x", "not there"), true}, "+o/b=y -b=y", "mv", "o/l", "n/l/x", "b", "o/l")
	// A directory on the way goes into itself, if at all.
	tree = nodeOf("p/d/", "a=x")
	checkRun(t, tree, refusedBy("mv", "p", "into itself"), "+p/d/a=x -a=x", "mv", "p", "a", "p/d")
}

// P13.1: where the goal is refused, no source has a line, and none is done.
func TestGoalIsFirst(t *testing.T) {
	sources := list("x", "", "\x00", "f", "to-itself/x", "f/x", "..", strings.Repeat("x", api.MaxText+1), "d", "g")
	for _, call := range list("mv", "mv -f", "cp", "cp -r", "ln -s", "ln -sf") {
		for goal, why := range map[string]string{"": "bad name", "x/y": "not there", "f/x": "wrong kind", "to-itself": "too many links", "g": "wrong kind", "q": "not there", padded("x") + "x": "too large"} {
			checkRun(t, sample(), refusedBy(call[:2], goal, why), "", wordsOf(call, slices.Concat(sources, list(goal))...)...)
		}
	}
}
