package walk_test

import (
	"strconv"
	"strings"
	"testing"

	"touchstone/api"
)

// P9.1: a link's text that begins by / goes from the root, another one from the directory in which the link stands.
func TestWhereTextsBegin(t *testing.T) {
	tree := treeOf(t, dir(
		in("f", file("")),
		in("d", dir(in("f", file("")), in("g", dir(in("f", dir()))), in("here", link("f")), in("root", link("/f")), in("gone", link("z/f")), in("away", link("/z/f")), in("down", link("g/f")), in("rootdown", link("//d/./g")))),
		in("q", dir(in("l", link("/d/here")), in("m", link("../d/here")), in("n", link("/d/down/.././../root")), in("f", dir()), in("g", link("f")))),
		in("up", link("q/g")),
	))
	checkRows(t, tree,
		row{"d/here", "/d/f file", "/d/here link"}, row{"d/root", "/f file", "/d/root link"}, row{"d/gone", isNone, "/d/gone link"}, row{"d/away", isNone, "/d/away link"},
		row{"d/down", "/d/g/f dir", "/d/down link"}, row{"d/rootdown", "/d/g dir", "/d/rootdown link"},
		row{"q/l", "/d/f file", "/q/l link"}, row{"q/m", "/d/f file", "/q/m link"}, row{"q/n", "/f file", "/q/n link"}, row{"q/g", "/q/f dir", "/q/g link"}, row{"up", "/q/f dir", "/up link"},
		both("d/here/x", isKind), both("d/root/x", isKind), both("d/gone/x", isNone), both("d/away/x", isNone), both("d/down/x", "/d/g/f/x absent"), both("d/rootdown/f", "/d/g/f dir"), both("up/x", "/q/f/x absent"),
		row{"d/rootdown/../here", "/d/f file", "/d/here link"},
	)
}

// P9.1: two dots behind a link go up from where it leads to, not from where it stands.
func TestTwoDotsBehindLinks(t *testing.T) {
	tree := treeOf(t, dir(
		in("d", dir(in("e", dir(in("f", file("")), in("back", link("../..")))), in("f", file("")), in("up", link("..")), in("l", link("/d/e")))),
		in("l", link("d/e")), in("lf", link("d/f")), in("lx", link("d/x")), in("o", link("o")), in("top", link("..")), in("self", link(".")), in("slash", link("/")), in("tops", link("../../d")),
	))
	checkRows(t, tree,
		both("l/..", "/d dir"), both("l/../f", "/d/f file"), both("l/../..", "/ dir"), both("l/../../l/f", "/d/e/f file"), both("d/l/../f", "/d/f file"), both("l/../e", "/d/e dir"),
		both("lf/..", isKind), both("lx/..", isNone), both("o/..", isLoop), both("top/..", "/ dir"), both("self/..", "/ dir"), both("slash/..", "/ dir"), both("l/./..", "/d dir"), both("l//..", "/d dir"),
		row{"d/up", "/ dir", "/d/up link"}, both("d/up/", "/ dir"), both("d/up/d/e", "/d/e dir"), both("d/up/d/up/d/f", "/d/f file"), both("d/e/back/d", "/d dir"), row{"l/back", "/ dir", "/d/e/back link"}, both("l/back/..", "/ dir"),
		row{"top", "/ dir", "/top link"}, both("top/top/d", "/d dir"), row{"tops", "/d dir", "/tops link"}, both("tops/f", "/d/f file"), row{"self", "/ dir", "/self link"}, both("self/self/self/d", "/d dir"), row{"self/self", "/ dir", "/self link"},
		row{"slash", "/ dir", "/slash link"}, both("slash/d/f", "/d/f file"), both("d/up/slash/x", "/x absent"),
	)
}

// P9.1: links whose texts have no steps, or are long, or have steps that are no names.
func TestOddTexts(t *testing.T) {
	longest := strings.Repeat("./", api.MaxText/2-1) + ".d"
	root := dir(in("d", dir(in("f", file("")))), in(".d", dir(in("f", file("")))), in("f", file("")))
	for _, text := range list("/", "//", strings.Repeat("/", api.MaxText)) {
		tree := treeOf(t, dir(append([]named{in("q", dir(in("l", link(text)), in("x", file(""))))}, kidsOf(root)...)...))
		checkRows(t, tree, row{"q/l", "/ dir", "/q/l link"}, both("q/l/", "/ dir"), both("q/l/f", "/f file"), both("q/l/..", "/ dir"), both("q/l/x", "/x absent"), both("q/l/x/y", isNone), both("q/l/q/x", "/q/x file"))
	}
	for _, text := range list(".", "./", "././.", ".//", strings.Repeat("./", api.MaxText/2)) {
		tree := treeOf(t, dir(append([]named{in("q", dir(in("l", link(text)), in("x", file(""))))}, kidsOf(root)...)...))
		checkRows(t, tree, row{"q/l", "/q dir", "/q/l link"}, both("q/l/", "/q dir"), both("q/l/f", "/q/f absent"), both("q/l/..", "/ dir"), both("q/l/x", "/q/x file"), both("q/l/x/y", isKind), both("q/l/y/x", isNone))
	}
	long := strings.Repeat("n", api.MaxName+1)
	tree := treeOf(t, dir(append([]named{in("l", link(longest)), in("n", link("\n")), in("o", link("d/"+long)), in("up", link(strings.Repeat("../", api.MaxText/3-1)+"d")), in("m", link(" ")), in("...", link("d/..."))}, kidsOf(root)...)...))
	checkRows(t, tree,
		row{"l", "/.d dir", "/l link"}, both("l/f", "/.d/f file"), both("l/x/y", isNone), row{"n", "/\n absent", "/n link"}, both("n/", "/\n absent"), both("n/x", isNone),
		row{"o", "/d/" + long + " absent", "/o link"}, both("o/x", isNone), row{"up", "/d dir", "/up link"}, both("up/f", "/d/f file"), row{"m", "/  absent", "/m link"}, row{"...", "/d/... absent", "/... link"}, both(".../x", isNone),
	)
}

// kidsOf are a directory's names with their nodes.
func kidsOf(n api.Node) []named {
	var all []named
	for i, name := range n.Names {
		all = append(all, in(name, n.Kids[i]))
	}
	return all
}

// P9.1: links that lead to further links, in the midst and at the end of their texts.
func TestFurtherLinks(t *testing.T) {
	tree := treeOf(t, dir(
		in("d", dir(in("f", file("")), in("e", dir(in("g", file("")))), in("le", link("e")), in("lf", link("f")), in("llf", link("/d/lf")), in("lx", link("x")), in("llx", link("../d/lx")))),
		in("l", link("d")), in("m", link("l")), in("n", link("m/le")), in("p", link("m/le/g")), in("q", link("l/llf")), in("r", link("l/llx")), in("s", link("/m/../l/./le/../f")), in("t", link("l/lf/x")), in("u", link("l/lx/x")), in("v", link("l/llx/..")), in("w", link("l/../..")),
	))
	checkRows(t, tree,
		row{"m", "/d dir", "/m link"}, row{"n", "/d/e dir", "/n link"}, row{"p", "/d/e/g file", "/p link"}, row{"q", "/d/f file", "/q link"}, row{"r", "/d/x absent", "/r link"}, row{"s", "/d/f file", "/s link"},
		row{"t", isKind, "/t link"}, row{"u", isNone, "/u link"}, row{"v", isNone, "/v link"}, row{"w", "/ dir", "/w link"},
		both("n/g", "/d/e/g file"), both("n/..", "/d dir"), both("p/x", isKind), both("q/x", isKind), both("r/x", isNone), both("s/..", isKind), both("t/x", isKind), both("u/x", isNone), both("v/x", isNone), both("w/d/f", "/d/f file"),
		row{"m/lf", "/d/f file", "/d/lf link"}, row{"m/llf", "/d/f file", "/d/llf link"}, row{"n/../lx", "/d/x absent", "/d/lx link"}, row{"m/llx", "/d/x absent", "/d/llx link"},
		both("m/", "/d dir"), both("n/", "/d/e dir"), both("p/", isKind), both("q/", isKind), both("r/", "/d/x absent"), both("s/.", isKind), both("t/", isKind), both("u/", isNone), both("w/", "/ dir"), both("m/le/.", "/d/e dir"), both("m/lf/.", isKind), both("m/llx//", "/d/x absent"),
	)
}

// P9.1: a directory is asked for by the text of the link at the end, as its last step, and by what this step led to.
func TestTextsThatAskForDirectory(t *testing.T) {
	for _, end := range list("/", "//", "/.", "/./") {
		tree := treeOf(t, dir(
			in("d", dir(in("f", file("")))), in("f", file("")), in("lf", link("f")), in("lx", link("x")), in("ld", link("d")), in("llf", link("lf")), in("lllf", link("d/../llf")), in("llx", link("lx")), in("lld", link("ld")), in("two", link("d/..")), in("o", link("o")),
			in("tf", link("f"+end)), in("tx", link("x"+end)), in("td", link("d"+end)), in("tlf", link("lf"+end)), in("tllf", link("llf"+end)), in("tlllf", link("lllf"+end)), in("tlx", link("lx"+end)), in("tllx", link("llx"+end)), in("tlld", link("lld"+end)), in("ttwo", link("two"+end)), in("to", link("o"+end)), in("tnone", link("x/y"+end)),
			in("ttf", link("tf")), in("ttx", link("tx")), in("tttx", link("./ttx")), in("ttlf", link("tlf")), in("ttlx", link("tlx")), in("ttd", link("td")), in("mid", link("td/f")), in("midup", link("td/../f")), in("midx", link("tx/../f")), in("midf", link("tf/../f")), in("midld", link("tlld/../lf")), in("midt", link("tlld/../tf")),
		))
		checkRows(t, tree,
			row{"tf", isKind, "/tf link"}, row{"tx", "/x absent", "/tx link"}, row{"td", "/d dir", "/td link"}, row{"tlf", isKind, "/tlf link"}, row{"tllf", isKind, "/tllf link"}, row{"tlllf", isKind, "/tlllf link"}, row{"tlx", "/x absent", "/tlx link"}, row{"tllx", "/x absent", "/tllx link"}, row{"tlld", "/d dir", "/tlld link"}, row{"ttwo", "/ dir", "/ttwo link"}, row{"to", isLoop, "/to link"}, row{"tnone", isNone, "/tnone link"},
			row{"ttf", isKind, "/ttf link"}, row{"ttx", "/x absent", "/ttx link"}, row{"tttx", "/x absent", "/tttx link"}, row{"ttlf", isKind, "/ttlf link"}, row{"ttlx", "/x absent", "/ttlx link"}, row{"ttd", "/d dir", "/ttd link"},
			both("tf/", isKind), both("tx/", "/x absent"), both("td/", "/d dir"), both("tlx/.", "/x absent"), both("ttlf/", isKind), both("tttx/", "/x absent"),
			both("tx/..", isNone), both("tx/x", isNone), both("td/x", "/d/x absent"), both("tf/x", isKind), both("ttd/..", "/ dir"), both("ttd/f/", isKind),
		)
		// What the text of a link in the midst asks for is not asked of what comes behind it.
		checkRows(t, tree,
			both("td/f", "/d/f file"), both("ttd/f", "/d/f file"), both("ttwo/f", "/f file"), row{"ttwo/lf", "/f file", "/lf link"}, row{"td/../llf", "/f file", "/llf link"}, row{"tlld/../tf", isKind, "/tf link"}, both("ttwo/td/../tlld/f", "/d/f file"),
			row{"mid", "/d/f file", "/mid link"}, row{"midup", "/f file", "/midup link"}, row{"midx", isNone, "/midx link"}, row{"midf", isKind, "/midf link"}, row{"midld", "/f file", "/midld link"}, row{"midt", isKind, "/midt link"},
			both("mid/", isKind), both("midld/", isKind), both("midx/", isNone),
		)
	}
}

// P9.1: Spot follows a link at the end just if the path asks for a directory, and then each further one.
func TestSpotAtTheEnd(t *testing.T) {
	tree := treeOf(t, dir(in("d", dir()), in("f", file("")), in("ld", link("d")), in("lld", link("ld")), in("lf", link("f")), in("lx", link("x")), in("llx", link("lx")), in("tx", link("x/")), in("o", link("o")), in("two", link(".."))))
	checkRows(t, tree,
		row{"ld", "/d dir", "/ld link"}, row{"lld", "/d dir", "/lld link"}, row{"lf", "/f file", "/lf link"}, row{"lx", "/x absent", "/lx link"}, row{"llx", "/x absent", "/llx link"}, row{"tx", "/x absent", "/tx link"}, row{"o", isLoop, "/o link"}, row{"two", "/ dir", "/two link"},
	)
	for _, end := range list("/", "//", "/.", "/././", "//.") {
		checkRows(t, tree,
			both("ld"+end, "/d dir"), both("lld"+end, "/d dir"), both("lf"+end, isKind), both("lx"+end, "/x absent"), both("llx"+end, "/x absent"), both("tx"+end, "/x absent"), both("o"+end, isLoop), both("two"+end, "/ dir"), both("ld/.."+end, "/ dir"),
		)
	}
}

// chained is a root with d, a directory, and links c1 to c12: c1 leads to d, each other one to the one ahead of it.
func chained(more ...named) api.Node {
	kids := append([]named{in("d", dir(in("f", file("")), in("s", link("."))))}, more...)
	before := "d"
	for i := 1; i <= 12; i++ {
		name := "c" + strconv.Itoa(i)
		kids = append(kids, in(name, link(before)))
		before = name
	}
	return dir(kids...)
}

// P9.1: MaxLinks links are followed, one more is refused; those of Spot's end are not counted, if they are not followed.
func TestJustSoManyLinks(t *testing.T) {
	tree := treeOf(t, chained())
	for i := 1; i <= 12; i++ {
		c := "c" + strconv.Itoa(i)
		if i <= api.MaxLinks {
			checkRows(t, tree, row{c, "/d dir", "/" + c + " link"}, both(c+"/", "/d dir"), both(c+"/f", "/d/f file"), both(c+"/x", "/d/x absent"), both(c+"/..", "/ dir"), both(c+"/f/x", isKind), both(c+"/x/x", isNone))
			continue
		}
		checkRows(t, tree, row{c, isLoop, "/" + c + " link"}, both(c+"/", isLoop), both(c+"/f", isLoop), both(c+"/x", isLoop), both(c+"/..", isLoop), both(c+"/f/x", isLoop), both(c+"/x/x", isLoop))
	}
	eight := "d" + strings.Repeat("/s", api.MaxLinks)
	checkRows(t, tree, row{eight, "/d dir", "/d/s link"}, both(eight+"/", "/d dir"), both(eight+"/f", "/d/f file"), row{eight + "/s", isLoop, "/d/s link"}, both(eight+"/s/", isLoop), both(eight+"/s/f", isLoop), both(eight+"/s/s", isLoop), both(eight+"/f/s", isKind))
}

// P9.1: links are counted through several texts, ahead of a link and behind it, in the path and in texts.
func TestLinksOfSeveralTexts(t *testing.T) {
	tree := treeOf(t, chained(in("eight", link("c3/../c4")), in("nine", link("c4/../c4")), in("both", link("/two/../two/f")), in("more", link("/two/../two/s/f")), in("two", link("./c2")), in("last", link("c7/..")), in("root", link("/"))))
	checkRows(t, tree,
		row{"c4/../c4", "/d dir", "/c4 link"}, both("c4/../c4/f", "/d/f file"), both("c4/../c4/.", "/d dir"), row{"c4/../c5", isLoop, "/c5 link"}, both("c4/../c5/", isLoop), both("c4/../c5/f", isLoop), row{"c8/../c1", isLoop, "/c1 link"}, row{"c8/../c12", isLoop, "/c12 link"}, both("c8/../d/f", "/d/f file"), row{"c8/s", isLoop, "/d/s link"}, both("c7/s/f", "/d/f file"), both("c1/../c2/../c2/../c3/f", "/d/f file"), both("c1/../c2/../c3/../c3/f", isLoop),
		row{"eight", "/d dir", "/eight link"}, both("eight/f", "/d/f file"), row{"eight/s", isLoop, "/d/s link"}, both("eight/s/f", isLoop), row{"nine", isLoop, "/nine link"}, both("nine/", isLoop), both("nine/f", isLoop),
		row{"both", "/d/f file", "/both link"}, both("both/", isKind), both("both/x", isKind), row{"more", "/d/f file", "/more link"}, row{"root/more", isLoop, "/more link"}, both("root/more/x", isLoop), both("more/x", isKind), row{"root/both", "/d/f file", "/both link"},
		row{"last", "/ dir", "/last link"}, both("last/d", "/d dir"), row{"last/c1", isLoop, "/c1 link"}, both("last/c1/", isLoop), both("last/d/s/f", isLoop), both("root/root/root/root/root/root/root/root/d", "/d dir"), both("root/root/root/root/root/root/root/root/root/d", isLoop),
	)
}

// P9.1: links to themselves, and to one another.
func TestLoops(t *testing.T) {
	tree := treeOf(t, dir(
		in("o", link("o")), in("abs", link("/abs")), in("dots", link("d/../dots")), in("a", link("b")), in("b", link("a")), in("d", dir(in("up", link("../d/up")), in("f", file("")))), in("grow", link("grow/grow")), in("down", link("down/x")), in("ask", link("ask/")), in("x1", link("/x2/..")), in("x2", link("x3/")), in("x3", link("./x1")), in("in", link("o/d")), in("self", link("./self/.")),
	))
	for _, name := range list("o", "abs", "dots", "a", "b", "grow", "down", "ask", "x1", "x2", "x3", "in", "self") {
		for _, ahead := range list("", "/", "d/../", "./", "d/.././/") {
			checkRows(t, tree, row{ahead + name, isLoop, "/" + name + " link"}, both(ahead+name+"/", isLoop), both(ahead+name+"/.", isLoop), both(ahead+name+"/..", isLoop), both(ahead+name+"/x", isLoop), both(ahead+name+"/d/f", isLoop), both(ahead+name+"/"+name, isLoop))
		}
	}
	checkRows(t, tree, row{"d/up", isLoop, "/d/up link"}, both("d/up/f", isLoop), both("d/up/..", isLoop), both("d/f", "/d/f file"))
}

// P9.1: the ninth link is refused ahead of what is wrong behind it, and behind what is wrong ahead of it.
func TestLoopOrElse(t *testing.T) {
	tree := treeOf(t, chained(in("f", file("")), in("c9x", link("c9/x/y")), in("xc9", link("x/c9")), in("fc9", link("f/c9")), in("c8x", link("c7/x/c9")), in("c8f", link("c7/f/c9"))))
	checkRows(t, tree,
		both("c9/x/y", isLoop), both("c9/f/y", isLoop), both("x/c9/y", isNone), both("f/c9/y", isKind), both("c8/x/c9", isNone), both("c8/f/c9", isKind), both("c8/../x/c9", isNone), both("c8/../f/c9", isKind), both("c8/../c1/../x/y", isLoop),
		row{"c9x", isLoop, "/c9x link"}, row{"xc9", isNone, "/xc9 link"}, row{"fc9", isKind, "/fc9 link"}, row{"c8x", isNone, "/c8x link"}, row{"c8f", isKind, "/c8f link"}, both("c8x/x", isNone), both("c8f/x", isKind), both("xc9/x", isNone),
	)
}
