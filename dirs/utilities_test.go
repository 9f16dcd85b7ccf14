package dirs_test

import "testing"

// allOfD is what is gone where the sample's d is taken away.
const allOfD = "-d/ -d/d/ -d/d/f= -d/e/ -d/f=y -d/l>f -d/up>.."

// each are rows of operands that come to the same.
func each(why, changed string, operands ...string) (rows []row) {
	for _, operand := range operands {
		rows = append(rows, row{operand, why, changed})
	}
	return rows
}

// P12.1: mkdir without p.
func TestMkdir(t *testing.T) {
	checkRows(t, "mkdir", each("", "+x/", "x", "/x", "//x", "x/", "x//", "./x", "x/.", "x/./", "../x", "../../x", "d/../x", "d/e/../../x", "to-d/../x", "d/up/x", "to-root/x", "to-up/x", "to-x/", "to-x/.", "to-x-slash/")...)
	checkRows(t, "mkdir", each("", "+d/x/", "d/x", "d//x/", "d/./x", "d/e/../x", "to-d/x", "to-d-slash/x", "to-dot/x", "to-dd/../x", "d/up/d/x", "to-dx/", "to-root/d/x")...)
	checkRows(t, "mkdir", each("", "+e/x/", "e/x", "to-e/x", "to-link/x", "to-e-slash/x")...)
	checkRows(t, "mkdir", each("there already", "", "f", "d", "e", "...", "d/", "e/", "d/.", "e//", "d/f", "d/e", "d/l", "/", ".", "..", "//", "./.", "d/..", "d/e/..", "e/..", "to-d/", "to-e/.", "to-link/", "to-root/", "d/up/", "to-d/e", "to-dd/f")...)
	checkRows(t, "mkdir", each("there already", "", "to-d", "to-e", "to-f", "to-x", "to-dx", "to-xy", "to-fx", "to-link", "to-itself", "to-bad", "to-root", "to-x-slash", "to-f-slash", "d/up")...)
	checkRows(t, "mkdir", each("wrong kind", "", "f/", "f/.", "f/x", "f/x/y", "f/..", "f/../x", "d/f/x", "to-f/", "to-f/x", "to-df/", "to-fx/", "to-fx/x", "to-f-slash/", "d/l/x", ".../x")...)
	checkRows(t, "mkdir", each("not there", "", "x/y", "x/y/z", "x/..", "x/../y", "d/x/y", "e/x/y", "to-x/y", "to-dx/y", "to-xy/", "to-xy/z", "to-x-slash/y", "to-e/x/y", "to-bad/", "to-bad/x")...)
	checkRows(t, "mkdir", each("too many links", "", "to-itself/", "to-itself/.", "to-itself/x", "to-itself/..", "to-itself/x/y", "d/up/to-itself/x")...)
}

// P12.1: mkdir with p, where all that is missing is made.
func TestMkdirP(t *testing.T) {
	checkRows(t, "mkdir -p", each("", "+x/", "x", "/x", "x/", "x//", "./x", "x/.", "../x", "d/../x", "x/..", "x/../", "x/../x", "x/../x/..", "d/up/x", "to-root/x", "to-x", "to-x/", "to-x/.", "to-x/..", "to-x-slash", "to-x-slash/", "to-x/../x")...)
	checkRows(t, "mkdir -p", each("", "+x/ +x/y/", "x/y", "/x/y/", "x//y", "./x/./y/.", "x/y/..", "x/y/../y", "x/../x/y", "to-x/y", "to-x-slash/y", "x/../to-xy", "to-x/../to-xy", "../x/y", "d/../x/../x/y")...)
	checkRows(t, "mkdir -p", each("", "+x/ +y/", "x/../y", "y/../x", "x/../y/", "/x//..//y", "d/../y/../x", "to-x/../y", "x/../y/../x")...)
	checkRows(t, "mkdir -p", each("", "+x/ +x/y/ +x/y/z/", "x/y/z", "x/y/../../to-xy/z", "x/../to-xy/z", "to-x/y/z")...)
	checkRows(t, "mkdir -p", each("", "+x/ +x/y/ +z/", "x/y/../../z", "x/../z/../x/y")...)
	checkRows(t, "mkdir -p", each("", "+d/x/", "d/x", "d/e/../x", "to-d/x", "to-dd/../x", "to-dx", "to-dx/", "to-dot/x", "to-d-slash/x")...)
	checkRows(t, "mkdir -p", each("", "+d/x/ +d/x/y/", "d/x/y", "to-d/x/y", "to-dx/y", "to-dd/../x/y", "d/x/../../to-dx/y")...)
	checkRows(t, "mkdir -p", each("", "+e/x/ +e/x/y/", "e/x/y", "to-e/x/y", "to-link/x/y", "to-e-slash/x/y")...)
	checkRows(t, "mkdir -p", each("", "", "/", ".", "..", "//", "./", "../..", "d", "e", "d/", "e/.", "d/e", "d/e/", "d/..", "d/e/..", "d/e/../..", "to-d", "to-d/", "to-e", "to-link", "to-root", "to-dot", "to-up", "to-d-slash", "to-e-slash", "d/up", "d/up/..", "to-d/e", "to-dd", "d/up/d/e")...)
}

// P12.1: mkdir with p, refused; what was made until then stays made.
func TestMkdirPRefused(t *testing.T) {
	checkRows(t, "mkdir -p", each("wrong kind", "", "f", "f/", "f/.", "/f", "...", "d/f", "f/x", "f/x/y", "f/..", "f/../x", "d/f/x", "d/f/..", "to-f", "to-f/", "to-f/x", "to-df", "to-df/x", "d/l", "to-fx", "to-fx/y", "to-f-slash", "to-d/f")...)
	checkRows(t, "mkdir -p", each("not there", "", "to-xy", "to-xy/", "to-xy/z", "to-xy/..", "to-bad", "to-bad/", "to-bad/x", "d/up/to-xy")...)
	checkRows(t, "mkdir -p", each("too many links", "", "to-itself", "to-itself/", "to-itself/x", "to-itself/..", "d/up/to-itself")...)
	checkRows(t, "mkdir -p", each("wrong kind", "+x/", "x/../f", "x/../f/y", "x/../d/f", "to-x/../f", "x/../to-fx", "x/../f/../y")...)
	checkRows(t, "mkdir -p", each("wrong kind", "+x/ +x/y/", "x/y/../../f/z", "x/y/../../d/l", "to-x/y/../../f")...)
	checkRows(t, "mkdir -p", each("wrong kind", "+x/ +x/f/", "x/f/../../f/x")...)
	checkRows(t, "mkdir -p", each("wrong kind", "+d/x/", "d/x/../f/y", "to-d/x/../f", "to-dx/../f/y", "d/x/../l")...)
	checkRows(t, "mkdir -p", each("not there", "+q/ +q/r/", "q/r/../../to-xy", "q/r/../../to-xy/z")...)
	checkRows(t, "mkdir -p", each("not there", "+q/", "q/../to-bad", "q/../to-xy/z")...)
	checkRows(t, "mkdir -p", each("too many links", "+q/", "q/../to-itself", "q/../to-itself/z")...)
}

// P12.1: rmdir.
func TestRmdir(t *testing.T) {
	checkRows(t, "rmdir", each("", "-e/", "e", "/e", "e/", "e//", "e/.", "./e", "../e", "d/../e", "d/e/../../e", "to-e/", "to-e/.", "to-link/", "to-e-slash/", "d/up/e", "to-root/e", "e/../e")...)
	checkRows(t, "rmdir", each("", "-d/e/", "d/e", "d/e/", "to-d/e", "to-dd/../e", "to-dot/e/.")...)
	checkRows(t, "rmdir", each("not empty", "", "d", "d/", "d/.", "d/d", "d/d/..", "d/e/..", "to-d/", "to-dd/", "to-dd/..", "to-d-slash/", "to-dot/")...)
	checkRows(t, "rmdir", each("not empty", "", "/", ".", "..", "//", "./.", "e/..", "d/..", "d/up/", "to-root/", "to-up/", "to-e/..")...)
	checkRows(t, "rmdir", each("wrong kind", "", "f", "d/f", "d/d/f", "...", "to-e", "to-d", "to-f", "to-x", "to-link", "to-itself", "to-bad", "to-root", "to-e-slash", "d/l", "d/up")...)
	checkRows(t, "rmdir", each("wrong kind", "", "f/", "f/.", "f/x", "f/..", "f/../e", "to-f/", "to-f/x", "to-fx/", "to-f-slash/", "d/l/")...)
	checkRows(t, "rmdir", each("not there", "", "x", "/x", "x/", "x/.", "d/x", "e/x", "x/y", "x/..", "x/../e", "to-x/", "to-dx/", "to-xy/", "to-x/y", "to-x-slash/", "to-bad/", "d/e/x/y")...)
	checkRows(t, "rmdir", each("too many links", "", "to-itself/", "to-itself/.", "to-itself/e", "to-itself/..")...)
	for _, root := range list("/", ".", "..", "//") {
		checkRun(t, nodeOf(), refusedBy("rmdir", root, "not empty"), "", "rmdir", root)
	}
}

// P12.1: touch.
func TestTouch(t *testing.T) {
	checkRows(t, "touch", each("", "+x=", "x", "/x", "//x", "./x", "../x", "d/../x", "d/up/x", "to-root/x", "to-up/x", "to-d/../x")...)
	checkRows(t, "touch", each("", "+d/x=", "d/x", "d//x", "d/./x", "d/e/../x", "to-d/x", "to-dd/../x", "to-d-slash/x", "to-dot/x")...)
	checkRows(t, "touch", each("", "+e/x=", "e/x", "to-e/x", "to-link/x", "to-e-slash/x")...)
	checkRows(t, "touch", each("", "", "f", "/f", "d/f", "d/d/f", "...", "to-f", "to-df", "d/l", "to-d/f", "d/up/f")...)
	checkRows(t, "touch", each("", "", "/", ".", "..", "d", "d/", "d/.", "e", "e/", "d/..", "e/..", "d/e", "to-d", "to-d/", "to-e", "to-e/.", "to-link", "to-link/", "to-root", "to-dot", "to-up", "to-d-slash", "to-e-slash", "d/up", "d/up/")...)
	checkRows(t, "touch", each("not there", "", "x/", "x//", "x/.", "x/./", "/x/", "d/x/", "d/x/.", "e/x/", "to-d/x/")...)
	checkRows(t, "touch", each("not there", "", "to-x", "to-dx", "to-x/", "to-x/.", "to-x-slash", "to-x-slash/", "to-bad", "to-bad/", "d/../to-x", "to-root/to-dx")...)
	checkRows(t, "touch", each("not there", "", "x/y", "x/..", "x/../f", "d/x/y", "to-x/y", "to-xy", "to-xy/", "to-xy/z", "e/x/y")...)
	checkRows(t, "touch", each("wrong kind", "", "f/", "f/.", "f//", "f/x", "f/x/y", "f/..", "f/../x", "d/f/", "to-f/", "to-f/x", "to-df/", "to-fx", "to-fx/", "to-f-slash", "to-f-slash/", "d/l/", "d/l/x")...)
	checkRows(t, "touch", each("too many links", "", "to-itself", "to-itself/", "to-itself/x", "to-itself/..", "d/../to-itself")...)
}

// filesAndLinks are what rm does with files and links, with whatever options.
func filesAndLinks() (rows []row) {
	rows = append(rows, each("", "-f=x", "f", "/f", "//f", "./f", "../f", "d/../f", "d/up/f", "to-root/f", "to-d/../f")...)
	rows = append(rows, each("", "-d/f=y", "d/f", "to-d/f", "d/e/../f", "to-dd/../f", "to-d-slash/f")...)
	rows = append(rows, each("", "-d/l>f", "d/l", "to-d/l")...)
	rows = append(rows, each("", "-d/up>..", "d/up", "to-dot/up")...)
	rows = append(rows, row{"to-dd/f", "", "-d/d/f="}, row{"...", "", "-...="}, row{"to-f", "", "-to-f>f"}, row{"to-x", "", "-to-x>x"}, row{"to-itself", "", "-to-itself>to-itself"}, row{"to-bad", "", "-to-bad>d/\n"})
	return append(rows, row{"to-d", "", "-to-d>d"}, row{"to-e", "", "-to-e>e"}, row{"to-link", "", "-to-link>to-e"}, row{"to-root", "", "-to-root>/"}, row{"to-d-slash", "", "-to-d-slash>d/"}, row{"to-xy", "", "-to-xy>x/y"}, row{"to-fx", "", "-to-fx>f/x"})
}

// refusedWays are what rm refuses with whatever options.
func refusedWays() []row {
	kinds := each("wrong kind", "", "f/", "f/.", "f/x", "f/..", "f/../f", "d/f/x", "to-f/", "to-f/x", "to-df/", "to-fx/", "to-fx/x", "to-f-slash/", "d/l/")
	return append(kinds, each("too many links", "", "to-itself/", "to-itself/.", "to-itself/f", "to-itself/..", "d/up/to-itself/f")...)
}

// nothingThere are operands at which nothing stands, some of them behind a way that does not go on.
func nothingThere() []string {
	return list("x", "/x", "x/", "x/.", "d/x", "e/x", "d/x/", "x/y", "x/y/z", "x/..", "x/../f", "d/x/y", "to-x/", "to-x/.", "to-dx/", "to-xy/", "to-x/y", "to-xy/z", "to-x-slash/", "to-bad/", "to-bad/x", "to-e/x")
}

// directories are operands that lead to directories but the root, and what is gone where that is taken away.
func directories() (rows []row) {
	rows = append(rows, each("", "-e/", "e", "e/", "/e//", "e/.", "d/../e", "to-e/", "to-e/.", "to-link/", "to-e-slash/", "d/up/e")...)
	rows = append(rows, each("", "-d/e/", "d/e", "to-d/e", "d/e/")...)
	rows = append(rows, each("", "-d/d/ -d/d/f=", "d/d", "to-dd/", "d/d/.")...)
	return append(rows, each("", allOfD, "d", "d/", "d/.", "to-d/", "to-dot/", "d/e/..", "to-dd/..", "d/up/d", "to-d-slash/")...)
}

// theRoot are operands that lead to the root.
func theRoot() []string {
	return list("/", ".", "..", "//", "./.", "../..", "e/..", "d/..", "d/up/", "to-root/", "to-up/", "to-e/..", "d/up/..")
}

// P12.1: rm without options.
func TestRm(t *testing.T) {
	checkRows(t, "rm", filesAndLinks()...)
	checkRows(t, "rm", refusedWays()...)
	checkRows(t, "rm", each("not there", "", nothingThere()...)...)
	checkRows(t, "rm", each("wrong kind", "", theRoot()...)...)
	for _, r := range directories() {
		checkRows(t, "rm", row{r.operand, "wrong kind", ""})
	}
	checkRun(t, nodeOf(), refusedBy("rm", "/", "wrong kind"), "", "rm", "/")
}

// P12.1: rm with f: where nothing stands it is as if it were done, and no more than that.
func TestRmF(t *testing.T) {
	checkRows(t, "rm -f", filesAndLinks()...)
	checkRows(t, "rm -f", refusedWays()...)
	checkRows(t, "rm -f", each("", "", nothingThere()...)...)
	checkRows(t, "rm -f", each("wrong kind", "", theRoot()...)...)
	for _, r := range directories() {
		checkRows(t, "rm -f", row{r.operand, "wrong kind", ""})
	}
	checkRun(t, nodeOf(), refusedBy("rm", "/", "wrong kind"), "", "rm", "-f", "/")
}

// P12.1: rm with r.
func TestRmR(t *testing.T) {
	checkRows(t, "rm -r", filesAndLinks()...)
	checkRows(t, "rm -r", refusedWays()...)
	checkRows(t, "rm -r", each("not there", "", nothingThere()...)...)
	checkRows(t, "rm -r", each("not empty", "", theRoot()...)...)
	checkRows(t, "rm -r", directories()...)
	checkRun(t, nodeOf(), refusedBy("rm", "/", "not empty"), "", "rm", "-r", "/")
}

// P12.1: rm with r and f.
func TestRmRF(t *testing.T) {
	checkRows(t, "rm -rf", filesAndLinks()...)
	checkRows(t, "rm -rf", refusedWays()...)
	checkRows(t, "rm -rf", each("", "", nothingThere()...)...)
	checkRows(t, "rm -rf", each("not empty", "", theRoot()...)...)
	checkRows(t, "rm -rf", directories()...)
	checkRun(t, nodeOf(), refusedBy("rm", "/", "not empty"), "", "rm", "-rf", "/")
}
