package path_test

import (
	"slices"
	"strings"
	"testing"

	"touchstone/api"
	"touchstone/path"
)

var (
	longestName = strings.Repeat("n", api.MaxName)
	tooLongName = longestName + "n"
)

func list(texts ...string) []string { return texts }

// row is a path, and what is to be told of it. The last name is empty where there is none.
type row struct {
	text  string
	steps []string
	dir   bool
	last  string
	clean []string
}

func checkRows(t *testing.T, rows []row) {
	t.Helper()
	for _, r := range rows {
		if got := path.Steps(r.text); !slices.Equal(got, r.steps) {
			t.Errorf("Steps(%.90q) = %.90q; want %.90q", r.text, got, r.steps)
		}
		if got := path.Dir(r.text); got != r.dir {
			t.Errorf("Dir(%.90q) = %v", r.text, got)
		}
		if got, ok := path.Last(r.text); got != r.last || ok != (r.last != "") {
			t.Errorf("Last(%.90q) = %.90q, %v; want %.90q", r.text, got, ok, r.last)
		}
		if got := path.Clean(r.text); !slices.Equal(got, r.clean) {
			t.Errorf("Clean(%.90q) = %.90q; want %.90q", r.text, got, r.clean)
		}
	}
}

// The chapter's examples.
func TestExamples(t *testing.T) {
	checkRows(t, []row{{"/a//./b/..", list("a", "b", ".."), true, "", list("a")}})
	if last, ok := path.Last("/a/b//"); last != "b" || !ok {
		t.Errorf("Last = %q, %v", last, ok)
	}
	if e := path.Check(""); e != api.ErrForm {
		t.Errorf("Check = %d", e)
	}
	if s := path.Show(list("a", "b")); s != "/a/b" {
		t.Errorf("Show = %q", s)
	}
	if !path.Under(list("a"), list("a", "b")) {
		t.Error("Under")
	}
}

// P6.1: names.
func TestNames(t *testing.T) {
	names := list("a", "b1", "A", "_", "-", "-p", "...", "....", ".a", "..a", "a.", "a..", ". ", " .", ".. ", " ..", ".\\", "..\\.",
		" ", "  ", "a b", "\t", "\r", "\\", "\"", "'", "*", "~", "#", "$x", ":", "\x01", "\x7f", "\x80", "\xff", "\xff.", "..\xff", "é",
		longestName, strings.Repeat(".", api.MaxName), strings.Repeat("\x80", api.MaxName), strings.Repeat("é", api.MaxName/2))
	for _, s := range names {
		if !path.Name(s) {
			t.Errorf("%.90q is a name", s)
		}
	}
}

// P6.1: texts that are no names.
func TestTextsThatAreNoNames(t *testing.T) {
	texts := list("", ".", "..", "/", "//", "./", "../", "/.", "a/", "/a", "a/b", "\x00", "\x00a", "a\x00", "a\x00b", ".\x00", "\n", "\na", "a\n", "a\nb", "..\n",
		tooLongName, strings.Repeat(".", api.MaxName+1), strings.Repeat("\x80", api.MaxName+1), strings.Repeat("é", api.MaxName/2)+"n",
		longestName[1:]+"/", longestName[1:]+"\x00", longestName[1:]+"\n", "/"+longestName[1:], strings.Repeat("n", 100000))
	for _, s := range texts {
		if path.Name(s) {
			t.Errorf("%.90q is no name", s)
		}
	}
}

// P6.1: each byte by itself, and beside others.
func TestBytesOfNames(t *testing.T) {
	for i := range 256 {
		b := string([]byte{byte(i)})
		may := !strings.Contains("\x00/\n", b)
		for s, want := range map[string]bool{b: may && b != ".", "." + b: may && b != ".", b + "a": may, "a" + b: may, "long name " + b + " of more bytes": may} {
			if got := path.Name(s); got != want {
				t.Errorf("Name(%q) = %v", s, got)
			}
		}
	}
}

// P6.1: names, with / and without.
func TestOrdinaryPaths(t *testing.T) {
	ab, abc := list("a", "b"), list("a", "b", "c")
	checkRows(t, []row{
		{"a", list("a"), false, "a", list("a")},
		{"/a", list("a"), false, "a", list("a")},
		{"a/", list("a"), true, "a", list("a")},
		{"/a/", list("a"), true, "a", list("a")},
		{"a/b", ab, false, "b", ab},
		{"/a/b", ab, false, "b", ab},
		{"/a/b/", ab, true, "b", ab},
		{"a/b/c", abc, false, "c", abc},
		{"a b/-c/\x80\xff", list("a b", "-c", "\x80\xff"), false, "\x80\xff", list("a b", "-c", "\x80\xff")},
		{"a\\/b", list("a\\", "b"), false, "b", list("a\\", "b")},
		{".../.a/..b", list("...", ".a", "..b"), false, "..b", list("...", ".a", "..b")},
		{"a./b..", list("a.", "b.."), false, "b..", list("a.", "b..")},
		{"a/....", list("a", "...."), false, "....", list("a", "....")},
		{"a/a/a", list("a", "a", "a"), false, "a", list("a", "a", "a")},
		{"usr/" + longestName, list("usr", longestName), false, longestName, list("usr", longestName)},
	})
}

// P6.1: no bytes, and / alone.
func TestPathsWithoutSteps(t *testing.T) {
	checkRows(t, []row{
		{"", nil, false, "", nil},
		{"/", nil, true, "", nil},
		{"//", nil, true, "", nil},
		{"////////", nil, true, "", nil},
		{".", nil, true, "", nil},
		{"./", nil, true, "", nil},
		{"/.", nil, true, "", nil},
		{"/./", nil, true, "", nil},
		{"././/./.", nil, true, "", nil},
	})
}

// P6.1: several / beside one another.
func TestSeveralSlashes(t *testing.T) {
	ab := list("a", "b")
	checkRows(t, []row{
		{"//a", list("a"), false, "a", list("a")},
		{"a//", list("a"), true, "a", list("a")},
		{"a//b", ab, false, "b", ab},
		{"///a////b/////", ab, true, "b", ab},
		{"//..//a//..", list("..", "a", ".."), true, "", nil},
	})
}

// P6.1: dots of one at the begin, between and at the end.
func TestDotsOfOne(t *testing.T) {
	ab := list("a", "b")
	checkRows(t, []row{
		{"./a", list("a"), false, "a", list("a")},
		{"/./a", list("a"), false, "a", list("a")},
		{"a/.", list("a"), true, "", list("a")},
		{"a/./", list("a"), true, "", list("a")},
		{"a//.//", list("a"), true, "", list("a")},
		{"a/./b", ab, false, "b", ab},
		{"a/././b", ab, false, "b", ab},
		{"./a/./b/.", ab, true, "", ab},
		{"././a", list("a"), false, "a", list("a")},
	})
}

// P6.1: dots of two at the begin, between and at the end; from the root they stay.
func TestDotsOfTwo(t *testing.T) {
	up := ".."
	checkRows(t, []row{
		{"..", list(up), true, "", nil},
		{"/..", list(up), true, "", nil},
		{"../", list(up), true, "", nil},
		{"../..", list(up, up), true, "", nil},
		{"../a", list(up, "a"), false, "a", list("a")},
		{"/../../a", list(up, up, "a"), false, "a", list("a")},
		{"a/..", list("a", up), true, "", nil},
		{"a/../", list("a", up), true, "", nil},
		{"a/../b", list("a", up, "b"), false, "b", list("b")},
		{"a/../../b", list("a", up, up, "b"), false, "b", list("b")},
		{"a/b/..", list("a", "b", up), true, "", list("a")},
		{"a/b/../..", list("a", "b", up, up), true, "", nil},
		{"a/b/../../../../c/d", list("a", "b", up, up, up, up, "c", "d"), false, "d", list("c", "d")},
		{"a/b/../c/../d", list("a", "b", up, "c", up, "d"), false, "d", list("a", "d")},
		{"a/./../b", list("a", up, "b"), false, "b", list("b")},
		{"a/../.", list("a", up), true, "", nil},
		{".././..", list(up, up), true, "", nil},
	})
}

// P6.1: a step need be no name; the last name must.
func TestStepsThatAreNoNames(t *testing.T) {
	checkRows(t, []row{
		{"\n", list("\n"), false, "", list("\n")},
		{"\x00", list("\x00"), false, "", list("\x00")},
		{"a/b\n", list("a", "b\n"), false, "", list("a", "b\n")},
		{"a/\x00b/", list("a", "\x00b"), true, "", list("a", "\x00b")},
		{"a\n/b", list("a\n", "b"), false, "b", list("a\n", "b")},
		{"a/.\n", list("a", ".\n"), false, "", list("a", ".\n")},
		{"a/..\n", list("a", "..\n"), false, "", list("a", "..\n")},
		{"\n/..", list("\n", ".."), true, "", nil},
		{"a/\x00/../b", list("a", "\x00", "..", "b"), false, "b", list("a", "b")},
		{tooLongName, list(tooLongName), false, "", list(tooLongName)},
		{"a/" + tooLongName + "//", list("a", tooLongName), true, "", list("a", tooLongName)},
		{tooLongName + "/../b", list(tooLongName, "..", "b"), false, "b", list("b")},
		{tooLongName + "/b", list(tooLongName, "b"), false, "b", list(tooLongName, "b")},
	})
}

func checkPaths(t *testing.T, want api.Errno, texts ...string) {
	t.Helper()
	for _, s := range texts {
		if got := path.Check(s); got != want {
			t.Errorf("Check(%.90q), %d bytes: %d; want %d", s, len(s), got, want)
		}
	}
}

// ofBytes is a path of so many bytes, whose steps are names.
func ofBytes(n int) string { return strings.Repeat("a/", (n-1)/2) + "aa"[:1+(n-1)%2] }

// P6.1: paths with which a utility may be called.
func TestPathsThatMayBe(t *testing.T) {
	checkPaths(t, api.OK, "a", "/", "//", ".", "..", "/a/b/", "a//b", "./a/../b/.", "../../..", "...", "a b", " ", "\t", "\\", "\x01", "\x80\xff", "é",
		longestName, "/"+longestName+"/"+longestName+"/", longestName+"/..")
}

// P6.1: no bytes, a byte 00, and steps that are neither names nor two dots.
func TestPathsOfNoForm(t *testing.T) {
	checkPaths(t, api.ErrForm, "", "\x00", "a\x00", "\x00a", "a/\x00/b", "/\x00", "a/b/\x00", "..\x00", ".\x00",
		"\n", "a\n", "\na", "a/\n", "\n/a", "a/b\nc/d", ".\n", "..\n", "../\n/..",
		tooLongName, "a/"+tooLongName, tooLongName+"/a", "/"+tooLongName+"/", "a/"+tooLongName+"/../b", tooLongName+tooLongName)
}

// P6.1: texts of MaxText bytes, and of more; which reason is told first.
func TestLongPaths(t *testing.T) {
	most := api.MaxText
	checkPaths(t, api.OK, ofBytes(most-1), ofBytes(most), strings.Repeat("/", most), strings.Repeat("./", most/2), strings.Repeat("../", most/3), strings.Repeat("/", most-1)+"a")
	checkPaths(t, api.ErrTooLarge, ofBytes(most+1), ofBytes(most+2), strings.Repeat("/", most+1), strings.Repeat("./", most/2)+".", strings.Repeat("a/", 100000))
	// A byte 00 is told ahead of the bytes' number, and that ahead of a step.
	checkPaths(t, api.ErrForm, ofBytes(most)+"\x00", "\x00"+ofBytes(most), strings.Repeat("\x00", most+1), strings.Repeat("\n", most)+"\x00")
	checkPaths(t, api.ErrTooLarge, ofBytes(most)+"\n", "\n"+ofBytes(most), strings.Repeat("n", most+1), strings.Repeat("\n", most+1), "/"+tooLongName+"/"+ofBytes(most))
	checkPaths(t, api.ErrForm, ofBytes(most-1)+"\n", strings.Repeat("n", most), strings.Repeat("\n", most), strings.Repeat("/", most-1)+"\n", "\x00"+ofBytes(most-1))
}

// R1: texts of many bytes and steps.
func TestManySteps(t *testing.T) {
	n := 300000
	many := slices.Repeat(list("a"), n)
	checkRows(t, []row{
		{strings.Repeat("a/", n), many, true, "a", many},
		{strings.Repeat("/./", n) + "a", list("a"), false, "a", list("a")},
		{strings.Repeat("a/", n) + strings.Repeat("../", n) + "b", slices.Concat(many, slices.Repeat(list(".."), n), list("b")), false, "b", list("b")},
		{strings.Repeat("x", n), list(strings.Repeat("x", n)), false, "", list(strings.Repeat("x", n))},
		{"a" + strings.Repeat("/", n), list("a"), true, "a", list("a")},
	})
	if want := strings.Repeat("/a", n); path.Show(many) != want {
		t.Error("Show of many names")
	}
	if longer := append(slices.Clone(many), "b"); !path.Under(many, longer) || path.Under(longer, many) || !path.Less(many, longer) || path.Less(longer, many) {
		t.Error("Under and Less of many names")
	}
}
