package path_test

import (
	"slices"
	"testing"

	"touchstone/path"
)

// P6.2: the root, one name, several.
func TestShow(t *testing.T) {
	for _, x := range []struct {
		place []string
		want  string
	}{
		{nil, "/"},
		{list(), "/"},
		{list("a"), "/a"},
		{list("a", "b"), "/a/b"},
		{list("a", "b", "a", "c d"), "/a/b/a/c d"},
		{list("...", "\\", "\x80\xff", "é"), "/.../\\/\x80\xff/é"},
		{list(longestName, longestName), "/" + longestName + "/" + longestName},
		// Names that are none are shown likewise.
		{list(""), "/"},
		{list("", "a", ""), "//a/"},
		{list("..", ".", "a/b", "\n\x00"), "/.././a/b/\n\x00"},
	} {
		if got := path.Show(x.place); got != x.want {
			t.Errorf("Show(%q) = %q; want %q", x.place, got, x.want)
		}
	}
}

// checkUnder checks whether b is a, or stands below it; and whether a is b, or stands below that.
func checkUnder(t *testing.T, a, b []string, below, above bool) {
	t.Helper()
	if path.Under(a, b) != below || path.Under(b, a) != above {
		t.Errorf("Under(%q, %q) = %v, and the other way about %v", a, b, path.Under(a, b), path.Under(b, a))
	}
}

// P6.2: the root, the same place, a beginning, and places that part.
func TestUnder(t *testing.T) {
	checkUnder(t, nil, nil, true, true)
	checkUnder(t, nil, list("a"), true, false)
	checkUnder(t, nil, list("a", "b"), true, false)
	checkUnder(t, list("a"), list("a"), true, true)
	checkUnder(t, list("a"), list("a", "b"), true, false)
	checkUnder(t, list("a", "b"), list("a", "b"), true, true)
	checkUnder(t, list("a", "b"), list("a", "b", "c", "d"), true, false)
	checkUnder(t, list("a"), list("b"), false, false)
	checkUnder(t, list("a"), list("b", "a"), false, false)
	checkUnder(t, list("b"), list("a", "b"), false, false)
	checkUnder(t, list("a", "b"), list("a", "c"), false, false)
	checkUnder(t, list("a", "b"), list("c", "b", "d"), false, false)
	checkUnder(t, list("a", "b", "c"), list("a", "d", "c"), false, false)
	// A name that begins another one is another name.
	checkUnder(t, list("a"), list("ab"), false, false)
	checkUnder(t, list("a"), list("ab", "c"), false, false)
	checkUnder(t, list("a", "b"), list("a", "bc"), false, false)
	checkUnder(t, list("a"), list("A", "b"), false, false)
	checkUnder(t, list("\xff"), list("\xff", "\x80"), true, false)
	checkUnder(t, list("\xff"), list("\xfe", "\x80"), false, false)
	// Names that are none are held against one another likewise.
	checkUnder(t, list(""), list("", ""), true, false)
	checkUnder(t, list("a/b"), list("a", "b"), false, false)
	checkUnder(t, list(""), list("a"), false, false)
}

// checkRising checks that each place stands ahead of all that stand behind it in the list.
func checkRising(t *testing.T, places ...[]string) {
	t.Helper()
	for i, a := range places {
		for k, b := range places {
			if got := path.Less(a, b); got != (i < k) {
				t.Errorf("Less(%q, %q) = %v", a, b, got)
			}
		}
	}
}

// P6.2: name by name; a beginning stands ahead of what goes on.
func TestLess(t *testing.T) {
	checkRising(t, nil, list("a"), list("a", "a"), list("a", "a", "a"), list("a", "b"), list("b"), list("b", "a"))
	checkRising(t, nil, list("z"), list("z", "a", "z"), list("z", "z"))
	checkRising(t, list("a", "c"), list("b", "a", "a"), list("b", "b"), list("c"))
	// A name that begins another one stands ahead, whatever stands below it.
	checkRising(t, list("a"), list("a", "z"), list("a", "z", "z"), list("a "), list("a!", "a"), list("a-b"), list("a.b"), list("aa"), list("ab"), list("ab", "a"), list("b"))
	checkRising(t, list("a", "b"), list("a", "b", "z"), list("a", "b!"), list("a", "ba"))
}

// P6.2: bytes are numbers from 0 to 255.
func TestLessOfBytes(t *testing.T) {
	checkRising(t, list("\x01"), list(" "), list("-"), list("."), list("0"), list("9"), list("A"), list("Z"), list("_"), list("a"), list("z"), list("~"), list("\x7f"), list("\x80"), list("\xc3"), list("é"), list("\xff"))
	checkRising(t, list("a", "\x7f"), list("a", "\x80"), list("a", "\xfe", "\xff"), list("a", "\xff"), list("a\x7f"), list("a\x80"), list("a\xff"))
	var places [][]string
	for i := range 256 {
		places = append(places, list("d", string([]byte{byte(i)})))
	}
	checkRising(t, places...)
	// Names that are none stand in their row likewise.
	checkRising(t, nil, list(""), list("", ""), list("", "a"), list("\x00"), list("\n"), list("a"), list("a/b"))
}

// P6.2: places put in their row by Less: each one ahead of what stands below it.
func TestRowOfPlaces(t *testing.T) {
	places := [][]string{list("b"), list("a", "b"), list("a-b"), list("ab"), list("a"), nil, list("a", "b", "c"), list("a", "\xff")}
	slices.SortFunc(places, func(a, b []string) int {
		switch {
		case path.Less(a, b):
			return -1
		case path.Less(b, a):
			return 1
		}
		return 0
	})
	var row []string
	for _, place := range places {
		row = append(row, path.Show(place))
	}
	if want := list("/", "/a", "/a/b", "/a/b/c", "/a/\xff", "/a-b", "/ab", "/b"); !slices.Equal(row, want) {
		t.Errorf("%q; want %q", row, want)
	}
}
