package expand_test

import (
	"slices"
	"strings"
	"testing"
	"unsafe"

	"touchstone/api"
	"touchstone/expand"
)

// setting is what a name is set to, among which variables, and what comes of that.
type setting struct {
	v           expand.Vars
	name, value string
	want        expand.Vars
}

func checkSet(t *testing.T, rows []setting) {
	t.Helper()
	for _, x := range rows {
		got, e := expand.Set(x.v, x.name, x.value)
		if e != api.OK || !sameVars(got, x.want) {
			t.Errorf("Set(%v, %.90q, %.90q) = %v, %d; want %v", x.v, x.name, x.value, got, e, x.want)
		}
	}
}

// checkNotSet checks that a name is not set to a value, whatever the variables.
func checkNotSet(t *testing.T, name, value string, want api.Errno) {
	t.Helper()
	for _, v := range []expand.Vars{{}, {Names: words("a"), Values: words("1"), Args: words("x"), Status: 3}, with("b", "1", "a", "2", "b", "3"), with(name, "1")} {
		got, e := expand.Set(v, name, value)
		if e != want || !sameVars(got, expand.Vars{}) {
			t.Errorf("Set(%v, %.90q, %d bytes) = %v, %d; want %d", v, name, len(value), got, e, want)
		}
	}
}

// P5.2: a new name at each place, and one that is there.
func TestSet(t *testing.T) {
	v := with("b", "1", "d", "2", "f", "3")
	checkSet(t, []setting{
		{expand.Vars{}, "a", "x", with("a", "x")},
		{expand.Vars{}, "a", "", with("a", "")},
		{v, "a", "x", with("a", "x", "b", "1", "d", "2", "f", "3")},
		{v, "c", "x", with("b", "1", "c", "x", "d", "2", "f", "3")},
		{v, "e", "", with("b", "1", "d", "2", "e", "", "f", "3")},
		{v, "g", "x", with("b", "1", "d", "2", "f", "3", "g", "x")},
		{v, "b", "x", with("b", "x", "d", "2", "f", "3")},
		{v, "d", "", with("b", "1", "d", "", "f", "3")},
		{v, "f", "3", v},
		{v, "B", "x", with("B", "x", "b", "1", "d", "2", "f", "3")},
		{v, "_", "x", with("_", "x", "b", "1", "d", "2", "f", "3")},
		{v, "d1", " \t\n\x00\r\x80\xff", with("b", "1", "d", "2", "d1", " \t\n\x00\r\x80\xff", "f", "3")},
	})
}

// P5.2: the arguments and the status stay as they are.
func TestSetKeepsTheRest(t *testing.T) {
	v, want := with("a", "1"), with("a", "1", "b", "2")
	for _, args := range [][]string{nil, {""}, {"x", "y z", ""}} {
		for _, status := range []int{0, 7, 255, -1, 1 << 40} {
			v.Args, v.Status, want.Args, want.Status = args, status, args, status
			checkSet(t, []setting{{v, "b", "2", want}})
		}
	}
}

// P5.2: of Names that do not rise the first one of each is kept, and they rise then.
func TestSetWhereNamesDoNotRise(t *testing.T) {
	mixed := with("c", "1", "a", "2", "c", "3", "b", "4", "a", "5")
	checkSet(t, []setting{
		{mixed, "d", "x", with("a", "2", "b", "4", "c", "1", "d", "x")},
		{mixed, "aa", "x", with("a", "2", "aa", "x", "b", "4", "c", "1")},
		{mixed, "a", "x", with("a", "x", "b", "4", "c", "1")},
		{mixed, "c", "x", with("a", "2", "b", "4", "c", "x")},
		{with("a", "1", "a", "2"), "b", "x", with("a", "1", "b", "x")},
		{with("a", "1", "a", "2"), "a", "x", with("a", "x")},
		{with("b", "1", "a", "2"), "a", "x", with("a", "x", "b", "1")},
		{with("b", "", "b", "1", "a", "2"), "c", "x", with("a", "2", "b", "", "c", "x")},
	})
}

// P5.2: a name that has no Value has the empty text then, too; a Value that has no name becomes no one's.
func TestSetWhereValuesAreNotAsManyAsNames(t *testing.T) {
	few := expand.Vars{Names: words("a", "b", "d"), Values: words("1")}
	many := expand.Vars{Names: words("a", "c"), Values: words("1", "2", "3", "4")}
	checkSet(t, []setting{
		{few, "c", "x", with("a", "1", "b", "", "c", "x", "d", "")},
		{few, "b", "x", with("a", "1", "b", "x", "d", "")},
		{few, "e", "x", with("a", "1", "b", "", "d", "", "e", "x")},
		{expand.Vars{Names: words("b", "a", "b"), Values: words("1")}, "c", "x", with("a", "", "b", "1", "c", "x")},
		{many, "b", "x", with("a", "1", "b", "x", "c", "2")},
		{many, "d", "x", with("a", "1", "c", "2", "d", "x")},
		{many, "c", "x", with("a", "1", "c", "x")},
		{expand.Vars{Values: words("1", "2")}, "a", "x", with("a", "x")},
	})
}

// P5.2: names that stand beside may be any texts; they stay.
func TestSetBesideOddNames(t *testing.T) {
	checkSet(t, []setting{
		{with("", "1", "1", "2", "a b", "3", "\xff", "4"), "a", "x", with("", "1", "1", "2", "a", "x", "a b", "3", "\xff", "4")},
		{with("\xff", "4", "?", "5", "#", "6"), "a", "x", with("#", "6", "?", "5", "a", "x", "\xff", "4")},
	})
}

// P5.2: which names may be.
func TestNames(t *testing.T) {
	longest := strings.Repeat("n", api.MaxName)
	for _, name := range []string{"a", "z", "A", "Z", "_", "a1", "_0", "__", "aZ_09", "if", longest, "_" + strings.Repeat("9", api.MaxName-1)} {
		checkSet(t, []setting{{expand.Vars{}, name, "x", with(name, "x")}, {with(name, "y"), name, "x", with(name, "x")}})
	}
	for _, name := range []string{"", "0", "1", "9", "10", "1a", "#", "?", "*", "@", "$", "!", "-", "a-b", "a b", " a", "a ", "a=", "=", "$a", "${a}", "a\n", "a\x00", "\x00", "é", "aé", "\xff", "a.b", "a/b", "#a", "?a", longest + "n", strings.Repeat("n", 10*api.MaxName)} {
		checkNotSet(t, name, "x", api.ErrArg)
	}
	for b := range 256 {
		text := string([]byte{byte(b)})
		letter := strings.Contains("abcdefghijklmnopqrstuvwxyzABCDEFGHIJKLMNOPQRSTUVWXYZ_", text)
		for name, may := range map[string]bool{text: letter, "a" + text: letter || strings.Contains("0123456789", text), text + "a": letter} {
			if may {
				checkSet(t, []setting{{expand.Vars{}, name, "x", with(name, "x")}})
			} else {
				checkNotSet(t, name, "x", api.ErrArg)
			}
		}
	}
}

// P5.2: values of MaxValue bytes, and of one more; and that a name which may not be is told first.
func TestMaxValue(t *testing.T) {
	longest := strings.Repeat("v", api.MaxValue)
	checkSet(t, []setting{{expand.Vars{}, "a", longest, with("a", longest)}, {with("a", "1"), "a", longest, with("a", longest)}})
	for _, value := range []string{longest + "v", longest + longest, strings.Repeat(" ", api.MaxValue+1), strings.Repeat("é", api.MaxValue/2+1)} {
		checkNotSet(t, "a", value, api.ErrTooLarge)
		checkNotSet(t, "", value, api.ErrArg)
		checkNotSet(t, "1", value, api.ErrArg)
		checkNotSet(t, strings.Repeat("n", api.MaxName+1), value, api.ErrArg)
	}
	// Just the value that is set is counted: the others stay, however long.
	checkSet(t, []setting{{with("a", longest+longest), "b", "x", with("a", longest+longest, "b", "x")}})
}

// P5.5: behind Set the name has the value, and all others what they had.
func TestBehindSet(t *testing.T) {
	names := words("a", "b", "c")
	var lists [][]string
	for n := range 4 * 4 * 4 * 4 {
		var l []string
		for ; n > 0; n /= 4 {
			l = append(l, append(names, "d")[n%4])
		}
		lists = append(lists, l)
	}
	others := append(names, "#", "?", "0", "1", "2", "e", "")
	for _, l := range lists {
		for values := range len(l) + 2 {
			v := expand.Vars{Names: l, Values: numberedAs("v", values), Args: words("one"), Status: 4}
			for _, name := range names {
				got, e := expand.Set(v, name, "new")
				if e != api.OK || !rises(got.Names) || len(got.Names) != len(got.Values) {
					t.Fatalf("Set(%v, %q) = %v, %d", v, name, got, e)
				}
				checkBehind(t, v, got, name, others)
			}
		}
	}
}

func rises(names []string) bool {
	return slices.IsSorted(names) && len(slices.Compact(slices.Clone(names))) == len(names)
}

func checkBehind(t *testing.T, v, got expand.Vars, name string, others []string) {
	t.Helper()
	for _, x := range others {
		want := expand.Value(v, x)
		if x == name {
			want = "new"
		}
		if value := expand.Value(got, x); value != want {
			t.Fatalf("%v, with %q set: %q is %q; want %q", v, name, x, value, want)
		}
		if slices.Contains(v.Names, x) && !slices.Contains(got.Names, x) {
			t.Fatalf("%v, with %q set: %v, without %q", v, name, got, x)
		}
	}
}

// withRoom is a list with texts in the room behind its end.
func withRoom(texts ...string) []string {
	l := make([]string, 0, len(texts)+3)
	l = append(l, texts...)
	copy(l[len(l):cap(l)], words("room", "room", "room"))
	return l
}

func wholeOf(l []string) []string { return slices.Clone(l[:cap(l)]) }

// R3: what is handed in is not changed, not read behind its end, and not kept.
func TestSetInNewMemory(t *testing.T) {
	for _, names := range [][]string{{"b", "d"}, {"d", "b"}, {"b", "b"}} {
		for _, name := range words("a", "b", "c", "d", "e") {
			v := expand.Vars{Names: withRoom(names...), Values: withRoom("1", "2"), Args: withRoom("x", "y"), Status: 1}
			before := [][]string{wholeOf(v.Names), wholeOf(v.Values), wholeOf(v.Args)}
			got, e := expand.Set(v, name, "new")
			again, _ := expand.Set(v, name, "new")
			if e != api.OK {
				t.Fatal("Set:", e)
			}
			for _, l := range [][]string{got.Names, got.Values, got.Args} {
				// Whatever the caller writes there is seen nowhere else.
				for i := range l[:cap(l)] {
					l[:cap(l)][i] = "written"
				}
			}
			after := [][]string{wholeOf(v.Names), wholeOf(v.Values), wholeOf(v.Args)}
			if !slices.EqualFunc(before, after, slices.Equal[[]string]) {
				t.Errorf("Set of %q: %q, and then %q", name, before, after)
			}
			if later, _ := expand.Set(v, name, "new"); !sameVars(later, again) || slices.Contains(later.Names, "room") || slices.Contains(again.Values, "room") {
				t.Errorf("Set of %q: %v, and then %v", name, again, later)
			}
			for i := range v.Names {
				v.Names[i], v.Values[i], v.Args[i] = "changed", "changed", "changed"
			}
			if slices.Contains(again.Names, "changed") || slices.Contains(again.Values, "changed") || slices.Contains(again.Args, "changed") {
				t.Errorf("Set of %q keeps what it was handed: %v", name, again)
			}
		}
	}
}

// within tells whether a text's bytes stand in the memory of another one.
func within(text, whole string) bool {
	if text == "" || whole == "" {
		return false
	}
	at, begin := uintptr(unsafe.Pointer(unsafe.StringData(text))), uintptr(unsafe.Pointer(unsafe.StringData(whole)))
	return at >= begin && at < begin+uintptr(len(whole))
}

// R3: an answer's texts are in new memory, too.
func TestTextsInNewMemory(t *testing.T) {
	whole := strings.Repeat("abcdef", 50)
	v := expand.Vars{Names: words(whole[:10], whole[20:40]), Values: words(whole[:60], whole[60:90]), Args: words(whole[90:120])}
	next, e := expand.Set(v, whole[1:12], whole[120:150])
	if e != api.OK || len(next.Names) != 3 {
		t.Fatalf("Set = %v, %d", next, e)
	}
	texts := slices.Concat(next.Names, next.Values, next.Args)
	texts = append(texts, expand.Value(v, whole[:10]), expand.Value(v, "1"))
	for _, l := range [][]api.Part{
		parts(bare(whole[:10])), parts(quoted(whole[:10])), parts(param("1")), parts(quotedParam("1")), parts(param(whole[:10]), bare("c")),
	} {
		texts = append(texts, expand.Text(v, l))
		texts = append(texts, expand.Fields(v, l)...)
		texts = append(texts, expand.Items(v, []api.Item{split(l...), unsplit(l...)})...)
	}
	for _, text := range texts {
		if within(text, whole) {
			t.Errorf("%.20q shares memory with an argument", text)
		}
	}
}

// R3: parts, items and variables are neither changed nor read behind their ends, and an answer's list is the caller's own.
func TestListsInNewMemory(t *testing.T) {
	l := parts(param("x"), bare("c"), quoted("room"))[:2]
	items := []api.Item{{Parts: l, Split: true}, {Parts: l}, {Parts: l}}[:2]
	v := expand.Vars{Names: withRoom("y", "x"), Values: withRoom("", "a b"), Args: withRoom("z")}
	before := [][]string{wholeOf(v.Names), wholeOf(v.Values), wholeOf(v.Args)}
	for range 2 {
		fields, all := expand.Fields(v, l), expand.Items(v, items)
		if text := expand.Text(v, l); text != "a bc" || !slices.Equal(fields, words("a", "bc")) || !slices.Equal(all, words("a", "bc", "a bc")) {
			t.Fatalf("Text = %q, Fields = %q, Items = %q", text, fields, all)
		}
		for _, answer := range [][]string{fields[:cap(fields)], all[:cap(all)]} {
			for i := range answer {
				answer[i] = "written"
			}
		}
	}
	after := [][]string{wholeOf(v.Names), wholeOf(v.Values), wholeOf(v.Args)}
	if !slices.EqualFunc(before, after, slices.Equal[[]string]) || !slices.Equal(l[:3], parts(param("x"), bare("c"), quoted("room"))) {
		t.Errorf("what was handed in: %q and then %q, %v", before, after, l[:3])
	}
}
