package dirs_test

import (
	"slices"
	"strconv"
	"strings"
	"testing"

	"touchstone/api"
	"touchstone/ftree"
)

// calls are the utilities' calls without their operands.
func calls() []string {
	return list("mkdir", "mkdir -p", "rmdir", "touch", "rm", "rm -f", "rm -r", "rm -rf")
}

// P12.1: operands that path.Check refuses: ahead of whatever is wrong on the way, and with f, too.
func TestOperandsThatAreNoPaths(t *testing.T) {
	long := strings.Repeat("n", api.MaxName+1)
	bad := list("", "\x00", "\n", "x\x00", "\x00x", "x\n", "\nx", "f\x00", "e\n", "d/\x00", "d/\n", "d/x\n/y", "f/\n", "f/\x00", "x/y/\n", "to-itself/\n", "to-itself/\x00", "\n/..", "\x00/../f", "../\n",
		long, long+"/", "/"+long, "d/"+long, "d/"+long+"/x", long+"/..", "f/"+long, "to-itself/"+long, "e/../"+long,
		strings.Repeat("x", api.MaxText)+"\x00", strings.Repeat("./", api.MaxText)+"\x00", "\x00"+strings.Repeat("/", api.MaxText), strings.Repeat("x", api.MaxText), strings.Repeat("/", api.MaxText-1)+"\n")
	large := list(strings.Repeat("/", api.MaxText+1), strings.Repeat("/", api.MaxText)+"x", strings.Repeat("/", api.MaxText)+"f", strings.Repeat("/", api.MaxText)+"e", "./"+strings.Repeat("./", api.MaxText/2-1)+".", "e"+strings.Repeat("/", api.MaxText),
		strings.Repeat("x", api.MaxText+1), strings.Repeat("x", 100000), "\n"+strings.Repeat("/", api.MaxText), "f/"+strings.Repeat("x", api.MaxText), "to-itself/"+strings.Repeat("x/", api.MaxText), strings.Repeat("../", 100)+"e", strings.Repeat("d/../", 60)+"f", strings.Repeat("x/", api.MaxText))
	for _, call := range calls() {
		for _, operand := range bad {
			checkRows(t, call, row{operand, "bad name", ""})
		}
		for _, operand := range large {
			checkRows(t, call, row{operand, "too large", ""})
		}
	}
}

// P12.1: operands of as many bytes as a path may have, and of names of as many bytes as a name may have.
func TestLongestOperands(t *testing.T) {
	name := strings.Repeat("n", api.MaxName)
	padded := func(end string) string { return strings.Repeat("/", api.MaxText-len(end)) + end }
	dotted := func(end string) string { return strings.Repeat("./", (api.MaxText-len(end))/2) + end }
	for _, operand := range list(padded("x"), dotted("/x"), dotted("x/"), "x"+strings.Repeat("/", api.MaxText-1)) {
		checkRows(t, "mkdir", row{operand, "", "+x/"})
		checkRows(t, "mkdir -p", row{operand, "", "+x/"})
		checkRows(t, "rmdir", row{operand, "not there", ""})
		checkRows(t, "rm", row{operand, "not there", ""})
		checkRows(t, "rm -rf", row{operand, "", ""})
	}
	checkRows(t, "mkdir", row{name, "", "+" + name + "/"}, row{"d/" + name, "", "+d/" + name + "/"}, row{padded("e/" + name), "", "+e/" + name + "/"})
	checkRows(t, "touch", row{padded("x"), "", "+x="}, row{dotted("/x"), "", "+x="}, row{dotted("x/"), "not there", ""}, row{name, "", "+" + name + "="})
	checkRows(t, "rmdir", row{padded("e"), "", "-e/"}, row{dotted("e/"), "", "-e/"})
	checkRows(t, "rm", row{padded("f"), "", "-f=x"}, row{name, "not there", ""})
	checkRows(t, "rm -r", row{padded("e"), "", "-e/"}, row{dotted("e/"), "", "-e/"})
	checkRows(t, "mkdir -p", row{strings.Repeat("x/../", (api.MaxText-1)/5) + "y", "", "+x/ +y/"})
	checkRows(t, "mkdir -p", row{name + "/" + name + "/" + name + "/" + name[:api.MaxText-3*len(name)-3], "", "+" + name + "/ +" + name + "/" + name + "/ +" + name + "/" + name + "/" + name + "/ +" + name + "/" + name + "/" + name + "/" + name[:api.MaxText-3*len(name)-3] + "/"})
	checkRows(t, "mkdir", row{name + "/x", "not there", ""})
}

// chain is the sample with links that lead to one another: of cN so many are followed up to the directory d.
func chain(t *testing.T) *ftree.Tree {
	tree := treeOf(t, sample())
	text := "d"
	for i := range api.MaxLinks + 1 {
		name := "c" + strconv.Itoa(i+1)
		tree.Put(list(name), api.Node{Kind: api.Link, Text: text})
		text = name
	}
	return tree
}

// P12.1: as many links as are followed, and one more: through one after another, and through several on the way.
func TestLinksOnTheWay(t *testing.T) {
	root := chain(t).Root()
	last, more := "c"+strconv.Itoa(api.MaxLinks), "c"+strconv.Itoa(api.MaxLinks+1)
	around := strings.Repeat("c1/../", api.MaxLinks-1)
	for call, end := range map[string]string{"mkdir": "x +d/x/", "mkdir -p": "x +d/x/", "rmdir": "e -d/e/", "touch": "x +d/x=", "rm": "f -d/f=y", "rm -f": "f -d/f=y", "rm -r": "e -d/e/", "rm -rf": "f -d/f=y"} {
		words := strings.Fields(call)
		name, changed, _ := strings.Cut(end, " ")
		for _, way := range list(last, "c3/../c2/../c3", around+"c1", "./"+last+"/.") {
			checkRun(t, root, done, changed, append(slices.Clone(words), way+"/"+name)...)
		}
		for _, way := range list(more, "c3/../c2/../c4", around+"c2", around+"c1/../c1", last+"/../c1", last+"/../to-d") {
			operand := way + "/" + name
			checkRun(t, root, refusedBy(words[0], operand, "too many links"), "", append(slices.Clone(words), operand)...)
		}
	}
	// At the end a link is followed by touch and by mkdir with p.
	checkRun(t, root, done, "", "touch", last)
	checkRun(t, root, done, "", "mkdir", "-p", last)
	checkRun(t, root, refusedBy("touch", more, "too many links"), "", "touch", more)
	checkRun(t, root, refusedBy("mkdir", more, "too many links"), "", "mkdir", "-p", more)
	checkRun(t, root, refusedBy("mkdir", more, "there already"), "", "mkdir", more)
	checkRun(t, root, refusedBy("rmdir", more, "wrong kind"), "", "rmdir", more)
	checkRun(t, root, done, "-"+more+">"+last, "rm", more)
	checkRun(t, root, done, "-"+more+">"+last, "rm", "-rf", more)
	checkRun(t, root, refusedBy("rm", more+"/", "too many links"), "", "rm", "-rf", more+"/")
}

// P12.1: how many nodes there are, and how deep, is not asked: over trees that are as large as they may be.
func TestTreesAtTheLimits(t *testing.T) {
	wide := api.Node{Kind: api.Dir}
	for i := range api.MaxNodes - 1 {
		wide.Names, wide.Kids = append(wide.Names, strconv.Itoa(10000+i)), append(wide.Kids, api.Node{Kind: api.File})
	}
	checkRun(t, wide, done, "+x/ +x/y/", "mkdir", "x", "x/y")
	checkRun(t, wide, done, "+x/ +x/y/ +x/y/z/", "mkdir", "-p", "x/y/z")
	checkRun(t, wide, done, "+x= +y=", "touch", "x", "y", "10000")
	checkRun(t, wide, done, "-10000= -11022=", "rm", "10000", "11022")
	checkRun(t, wide, refusedBy("mkdir", "10005", "there already"), "+x/", "mkdir", "10005", "x")
	checkRun(t, wide, refusedBy("rm", "/", "not empty"), "", "rm", "-rf", "/")

	way := strings.TrimSuffix(strings.Repeat("d/", api.MaxDepth), "/")
	deep := nodeOf(way + "/")
	checkRun(t, deep, done, "+"+way+"/x/", "mkdir", way+"/x")
	checkRun(t, deep, done, "+"+way+"/x/ +"+way+"/x/y/", "mkdir", "-p", way+"/x/y")
	checkRun(t, deep, done, "+"+way+"/x=", "touch", way+"/x")
	checkRun(t, deep, done, "-"+way+"/", "rmdir", way)
	tree := treeOf(t, deep)
	if got := run(tree, "rm", "-r", "d"); got != done || !ftree.Same(tree.Root(), nodeOf()) {
		t.Errorf("rm -r d: %s, then %v", got.text(), tree.Root())
	}
	longest := strings.Repeat("d/", api.MaxText/2)
	if got := run(tree, "mkdir", "-p", longest); got != done || ftree.Nodes(tree.Root()) != 1+api.MaxText/2 || !ftree.Well(tree.Root()) {
		t.Errorf("mkdir -p of many steps: %s, then %d nodes", got.text(), ftree.Nodes(tree.Root()))
	}
	if got := run(tree, "rmdir", longest); got != done || ftree.Nodes(tree.Root()) != api.MaxText/2 {
		t.Errorf("rmdir of many steps: %s, then %d nodes", got.text(), ftree.Nodes(tree.Root()))
	}
}

// P12.1, P12.2: each reason's word by a line of each utility that can tell it.
func TestReasonsOfUtilities(t *testing.T) {
	large := strings.Repeat("/", api.MaxText) + "x"
	for call, reasons := range map[string]map[string]string{
		"mkdir":    {"not there": "x/y", "there already": "e", "wrong kind": "f/x", "too many links": "to-itself/x", "too large": large, "bad name": ""},
		"mkdir -p": {"not there": "to-xy", "wrong kind": "f", "too many links": "to-itself", "too large": large, "bad name": ""},
		"rmdir":    {"not there": "x", "wrong kind": "f", "not empty": "d", "too many links": "to-itself/", "too large": large, "bad name": ""},
		"touch":    {"not there": "x/", "wrong kind": "f/", "too many links": "to-itself", "too large": large, "bad name": ""},
		"rm":       {"not there": "x", "wrong kind": "d", "too many links": "to-itself/", "too large": large, "bad name": ""},
		"rm -f":    {"wrong kind": "d", "too many links": "to-itself/", "too large": large, "bad name": ""},
		"rm -r":    {"not there": "x", "wrong kind": "f/", "not empty": "/", "too many links": "to-itself/", "too large": large, "bad name": ""},
		"rm -rf":   {"wrong kind": "f/", "not empty": "/", "too many links": "to-itself/", "too large": large, "bad name": ""},
	} {
		for why, operand := range reasons {
			checkRows(t, call, row{operand, why, ""})
		}
	}
}

// P12.1: a line has its operand as it was told, whatever bytes it has.
func TestOperandsInLines(t *testing.T) {
	for operand, why := range map[string]string{
		"x: y": "not there", " ": "not there", "\t/..": "not there", "//x//": "not there", "./x/.": "not there", "/": "wrong kind", "../d/../d": "wrong kind", "\xff\xfe": "not there", "%s%d": "not there", "\\n": "not there",
		"a\nb": "bad name", "\n": "bad name", "a\x00b": "bad name", "": "bad name", "*": "not there", "'x'": "not there", "rm: x: not there": "not there", "é": "not there",
	} {
		checkRows(t, "rm", row{operand, why, ""})
	}
}
