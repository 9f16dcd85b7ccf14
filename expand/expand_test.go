package expand_test

import (
	"math"
	"slices"
	"strconv"
	"strings"
	"testing"

	"touchstone/api"
	"touchstone/expand"
)

func bare(text string) api.Part        { return api.Part{Text: text} }
func quoted(text string) api.Part      { return api.Part{Text: text, Quoted: true} }
func param(name string) api.Part       { return api.Part{Var: true, Text: name} }
func quotedParam(name string) api.Part { return api.Part{Var: true, Text: name, Quoted: true} }

func parts(l ...api.Part) []api.Part   { return l }
func split(l ...api.Part) api.Item     { return api.Item{Parts: l, Split: true} }
func unsplit(l ...api.Part) api.Item   { return api.Item{Parts: l} }
func words(texts ...string) []string   { return texts }
func withArgs(l ...string) expand.Vars { return expand.Vars{Args: l} }

// numberedAs are n texts: the word with 1 behind it, with 2, and so on.
func numberedAs(word string, n int) (l []string) {
	for i := range n {
		l = append(l, word+strconv.Itoa(i+1))
	}
	return l
}

// with are variables of these names and values, a name and its value beside one another.
func with(pairs ...string) expand.Vars {
	var v expand.Vars
	for i := 0; i < len(pairs); i += 2 {
		v.Names = append(v.Names, pairs[i])
		v.Values = append(v.Values, pairs[i+1])
	}
	return v
}

// checkValues checks a parameter's value, and what it stands for in each of the other calls.
func checkValues(t *testing.T, v expand.Vars, want map[string]string) {
	t.Helper()
	for name, value := range want {
		if got := expand.Value(v, name); got != value {
			t.Errorf("Value(%v, %.90q) = %q; want %q", v, name, got, value)
		}
		if got := expand.Text(v, parts(param(name))); got != value {
			t.Errorf("Text of %.90q, with %v: %q; want %q", name, v, got, value)
		}
		if got := expand.Fields(v, parts(quotedParam(name))); !slices.Equal(got, words(value)) {
			t.Errorf("Fields of a quoted %.90q, with %v: %q; want %q", name, v, got, value)
		}
	}
}

func sameVars(a, b expand.Vars) bool {
	return slices.Equal(a.Names, b.Names) && slices.Equal(a.Values, b.Values) && slices.Equal(a.Args, b.Args) && a.Status == b.Status
}

// The chapter's examples.
func TestExamples(t *testing.T) {
	v := with("x", "a  b ")
	v.Args = words("one", "two")
	checkFields(t, v, []expansion{
		{parts(param("x")), "a  b ", words("a", "b")},
		{parts(quotedParam("x")), "a  b ", words("a  b ")},
		{parts(bare("c"), param("x"), quoted("d")), "ca  b d", words("ca", "b", "d")},
		{parts(param("y")), "", nil},
		{parts(quoted("")), "", words("")},
		{parts(bare("c"), param("y")), "c", words("c")},
		{parts(bare("c"), param("x")), "ca  b ", words("ca", "b")},
	})
	checkValues(t, v, map[string]string{"#": "2", "3": ""})
}

// P5.1: the arguments, and how many there are.
func TestArguments(t *testing.T) {
	checkValues(t, expand.Vars{}, map[string]string{"#": "0", "1": "", "9": ""})
	checkValues(t, withArgs("a"), map[string]string{"#": "1", "1": "a", "2": "", "9": ""})
	checkValues(t, withArgs("", " b\n"), map[string]string{"#": "2", "1": "", "2": " b\n", "3": ""})
	for n := range 12 {
		v := withArgs(numberedAs("arg", n)...)
		checkValues(t, v, map[string]string{"#": strconv.Itoa(n)})
		for i := 1; i <= 9; i++ {
			want := ""
			if i <= n {
				want = "arg" + strconv.Itoa(i)
			}
			checkValues(t, v, map[string]string{strconv.Itoa(i): want})
		}
	}
	checkValues(t, withArgs(make([]string, 12345)...), map[string]string{"#": "12345"})
}

// P5.1: the status as R7 writes it.
func TestStatus(t *testing.T) {
	for status, want := range map[int]string{
		0: "0", 1: "1", 9: "9", 10: "10", 127: "127", 255: "255", 256: "256", -1: "-1", -255: "-255",
		math.MaxInt64: "9223372036854775807", math.MinInt64: "-9223372036854775808",
	} {
		checkValues(t, expand.Vars{Status: status}, map[string]string{"?": want, "#": "0", "status": ""})
	}
}

// P5.1: variables that are there, and ones that are not.
func TestVariables(t *testing.T) {
	long := strings.Repeat("n", api.MaxName)
	v := with("A", "1", "Z9", "", "_", "under", "a", " \t\n", "ab", "\x00\x80\xff", "b", strings.Repeat("v", api.MaxValue), long, "long")
	checkValues(t, v, map[string]string{
		"A": "1", "Z9": "", "_": "under", "a": " \t\n", "ab": "\x00\x80\xff", "b": strings.Repeat("v", api.MaxValue), long: "long",
		"B": "", "Z": "", "Z99": "", "__": "", "aa": "", "abc": "", "c": "", "z": "", long[1:]: "", long + "n": "", "": "",
	})
	// Neither the arguments nor the status are variables, nor the other way about.
	for _, status := range []int{0, 7} {
		v := with("a", "x")
		v.Args, v.Status = words("a", "b"), status
		checkValues(t, v, map[string]string{"a": "x", "b": "", "#": "2", "?": strconv.Itoa(status), "1": "a", "2": "b"})
	}
}

// P5.1: any other text is asked of the variables, and of nothing else: 0, numbers of more digits, what is no parameter's name.
func TestOtherTexts(t *testing.T) {
	other := words("", " ", "##", "$", "*", "+1", "-1", "0", "00", "01", "10", "11", "1a", "99", ":", "=", "??", "@", "a b", "a=", "x\x00", "é", "\xb1", "\xff")
	slices.Sort(other)
	none := withArgs(numberedAs("arg", 20)...)
	none.Status = 3
	named := none
	named.Names, named.Values = other, numberedAs("value", len(other))
	for i, name := range other {
		checkValues(t, none, map[string]string{name: ""})
		checkValues(t, named, map[string]string{name: "value" + strconv.Itoa(i+1)})
	}
}

// P5.1: variables by names of parameters that are none: what the parameters stand for counts.
func TestVariablesNamedAsOtherParameters(t *testing.T) {
	v := with("#", "no", "1", "no", "2", "no", "9", "no", "?", "no")
	v.Args, v.Status = words("one"), 5
	checkValues(t, v, map[string]string{"#": "1", "1": "one", "2": "", "9": "", "?": "5"})
}

// P5.1: Names that do not rise: the first one of a name counts.
func TestNamesThatDoNotRise(t *testing.T) {
	checkValues(t, with("b", "1", "a", "2"), map[string]string{"a": "2", "b": "1", "c": ""})
	checkValues(t, with("a", "1", "a", "2"), map[string]string{"a": "1"})
	checkValues(t, with("a", "", "a", "2", "a", "3"), map[string]string{"a": ""})
	checkValues(t, with("b", "1", "a", "2", "b", "3", "a", "4", "c", "5", "b", "6"), map[string]string{"a": "2", "b": "1", "c": "5", "": "", "d": ""})
	checkValues(t, with("a", "1", "c", "2", "c", "3", "b", "4"), map[string]string{"a": "1", "b": "4", "c": "2"})
	var v expand.Vars
	want := map[string]string{}
	for i := range 200 {
		name, value := "n"+strconv.Itoa(i*37%50), "v"+strconv.Itoa(i)
		v.Names, v.Values = append(v.Names, name), append(v.Values, value)
		if i < 50 {
			want[name] = value
		}
	}
	checkValues(t, v, want)
}

// P5.1: a name that has no Value has the empty text, though another one of that name had one; Values that have no name are no one's.
func TestFewerValuesThanNames(t *testing.T) {
	v := expand.Vars{Names: words("a", "b", "c"), Values: words("1")}
	checkValues(t, v, map[string]string{"a": "1", "b": "", "c": "", "d": ""})
	checkValues(t, expand.Vars{Names: words("a", "b")}, map[string]string{"a": "", "b": ""})
	checkValues(t, expand.Vars{Names: words("c", "a", "b", "a"), Values: words("3", "1")}, map[string]string{"a": "1", "b": "", "c": "3"})
	checkValues(t, expand.Vars{Names: words("a"), Values: words("1", "2", "3")}, map[string]string{"a": "1", "b": "", "": ""})
	checkValues(t, expand.Vars{Values: words("1", "2")}, map[string]string{"a": "", "": ""})
}

// R1, R2: many parameters and many variables in one call.
func TestManyVariables(t *testing.T) {
	var v expand.Vars
	var l []api.Part
	want := strings.Builder{}
	for i := range 100000 {
		name := "n" + strconv.Itoa(i*7919%100000)
		v.Names, v.Values = append(v.Names, name), append(v.Values, strconv.Itoa(i)+" ")
		l = append(l, param(name))
		want.WriteString(strconv.Itoa(i) + " ")
	}
	if got := expand.Text(v, l); got != want.String() {
		t.Errorf("Text: %d bytes; want %d", len(got), want.Len())
	}
	if got := expand.Fields(v, l); strings.Join(got, " ")+" " != want.String() {
		t.Errorf("Fields: %d of them", len(got))
	}
}
