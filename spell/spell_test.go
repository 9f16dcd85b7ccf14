package spell_test

import (
	"slices"
	"strconv"
	"strings"
	"testing"

	"touchstone/api"
	"touchstone/ftree"
	"touchstone/spell"
)

var (
	longestName = strings.Repeat("n", api.MaxName)
	longestText = strings.Repeat("t", api.MaxText)
)

// entry is a node with its name in a directory.
type entry struct {
	name string
	node api.Node
}

func in(name string, n api.Node) entry { return entry{name, n} }
func file(text string) api.Node        { return api.Node{Kind: api.File, Text: text} }
func link(text string) api.Node        { return api.Node{Kind: api.Link, Text: text} }
func list(items ...string) []string    { return items }

// dir is a directory of these entries, in the row in which they stand here.
func dir(entries ...entry) api.Node {
	n := api.Node{Kind: api.Dir}
	for _, e := range entries {
		n.Names = append(n.Names, e.name)
		n.Kids = append(n.Kids, e.node)
	}
	return n
}

// chain is a node below so many directories, each one of which has nothing else.
func chain(directories int, n api.Node) api.Node {
	for range directories {
		n = dir(in("d", n))
	}
	return n
}

// wide is a directory of so many names, of one node each.
func wide(count int, n api.Node) api.Node {
	wide := api.Node{Kind: api.Dir, Names: make([]string, count), Kids: make([]api.Node, count)}
	for i := range count {
		wide.Names[i], wide.Kids[i] = "k"+strconv.Itoa(1000000+i), n
	}
	return wide
}

// sample is a node with its text and its list.
type sample struct {
	node  api.Node
	text  string
	lines []string
}

// samples are nodes of each Kind, with all sorts of bytes in texts and in names.
func samples() []sample {
	return []sample{
		{file(""), "f0:", list("/ f ")},
		{file("x"), "f1:x", list("/ f x")},
		{file(longestText), "f256:" + longestText, list("/ f " + longestText)},
		{file("a\nb"), "f3:a\nb", list(`/ f a\nb`)},
		{file("\n"), "f1:\n", list(`/ f \n`)},
		{file(`\`), `f1:\`, list(`/ f \\`)},
		{file(`\n`), `f2:\n`, list(`/ f \\n`)},
		{file("\\\n\\s"), "f4:\\\n\\s", list(`/ f \\\n\\s`)},
		{file(" "), "f1: ", list("/ f  ")},
		{file(" a  b "), "f6: a  b ", list("/ f  a  b ")},
		{file("\ta\r"), "f3:\ta\r", list("/ f \ta\r")},
		{file("1:2:"), "f4:1:2:", list("/ f 1:2:")},
		{file("123"), "f3:123", list("/ f 123")},
		{file("\xff\x80\x01"), "f3:\xff\x80\x01", list("/ f \xff\x80\x01")},
		{file("é"), "f2:é", list("/ f é")},
		{file("d2:1:a"), "f6:d2:1:a", list("/ f d2:1:a")},
		{link("x"), "l1:x", list("/ l x")},
		{link(" "), "l1: ", list("/ l  ")},
		{link("../a b\n\\"), "l8:../a b\n\\", list(`/ l ../a b\n\\`)},
		{link(longestText), "l256:" + longestText, list("/ l " + longestText)},
		{link("1:f0:"), "l5:1:f0:", list("/ l 1:f0:")},
		{dir(), "d0:", list("/ d")},
		{dir(in("a", file(""))), "d1:1:af0:", list("/ d", "/a f ")},
		{dir(in(longestName, dir())), "d1:64:" + longestName + "d0:", list("/ d", "/"+longestName+" d")},
		{dir(in("a", file("x")), in("d", dir())), "d2:1:af1:x1:dd0:", list("/ d", "/a f x", "/d d")},
		{dir(in("1", file("2")), in("2:", dir(in(":", link("3"))))), "d2:1:1f1:22:2:d1:1::l1:3", list("/ d", "/1 f 2", "/2: d", "/2:/: l 3")},
		{dir(in(" ", file(" ")), in(` \s`, link(" ")), in("a b", file("a b"))), `d3:1: f1: 3: \sl1: 3:a bf3:a b`, list("/ d", `/\s f  `, `/\s\\s l  `, `/a\sb f a b`)},
		{dir(in("\t", dir()), in(`\`, dir(in("n", file("\n")))), in(`\n`, file(`\n`)), in("\xff", file("\xff"))), "d4:1:\td0:1:\\d1:1:nf1:\n2:\\nf2:\\n1:\xfff1:\xff", list("/ d", "/\t d", `/\\ d`, `/\\/n f \n`, `/\\n f \\n`, "/\xff f \xff")},
		{dir(in("...", dir()), in("..a", dir()), in("a", dir())), "d3:3:...d0:3:..ad0:1:ad0:", list("/ d", "/... d", "/..a d", "/a d")},
		{dir(in("a", dir(in("x", file("1")))), in("a!", dir(in("x", file("2")))), in("a-b", dir()), in("aa", dir(in("a", dir())))), "d4:1:ad1:1:xf1:12:a!d1:1:xf1:23:a-bd0:2:aad1:1:ad0:", list("/ d", "/a d", "/a/x f 1", "/a! d", "/a!/x f 2", "/a-b d", "/aa d", "/aa/a d")},
		{dir(in("a", dir(in("b", dir(in("c", dir()))), in("e", link("b")))), in("f", file("g"))), "d2:1:ad2:1:bd1:1:cd0:1:el1:b1:ff1:g", list("/ d", "/a d", "/a/b d", "/a/b/c d", "/a/e l b", "/f f g")},
		{chain(api.MaxDepth+2, file("x")), strings.Repeat("d1:1:d", api.MaxDepth+2) + "f1:x", chainLines(api.MaxDepth+2, "f x")},
		{wide(2000, link("w")), wideText(2000, "l1:w"), wideLines(2000, "l w")},
	}
}

// chainLines is the list of a chain of directories.
func chainLines(directories int, end string) []string {
	lines := list("/ d")
	for i := 1; i < directories; i++ {
		lines = append(lines, strings.Repeat("/d", i)+" d")
	}
	return append(lines, strings.Repeat("/d", directories)+" "+end)
}

func wideText(count int, kid string) string {
	var text strings.Builder
	text.WriteString("d" + strconv.Itoa(count) + ":")
	for i := range count {
		text.WriteString("8:k" + strconv.Itoa(1000000+i) + kid)
	}
	return text.String()
}

func wideLines(count int, kid string) []string {
	lines := list("/ d")
	for i := range count {
		lines = append(lines, "/k"+strconv.Itoa(1000000+i)+" "+kid)
	}
	return lines
}

// checkShow checks a node's text, and that it is read as that node.
func checkShow(t *testing.T, n api.Node, text string) {
	t.Helper()
	if got, e := spell.Show(n); got != text || e != api.OK {
		t.Errorf("Show = %.300q, %d; want %.300q", got, e, text)
	}
	back, e := spell.Parse(text)
	if !ftree.Same(back, n) || e != api.OK {
		t.Errorf("Parse(%.300q): a node of Kind %d, %d", text, back.Kind, e)
	}
}

// P8.1, P8.2: each sample's text and list; Parse of Show and Show of Parse.
func TestSamples(t *testing.T) {
	for _, s := range samples() {
		checkShow(t, s.node, s.text)
		if got, e := spell.List(s.node); !slices.Equal(got, s.lines) || e != api.OK {
			t.Errorf("List of %.300q = %.300q, %d; want %.300q", s.text, got, e, s.lines)
		}
	}
}

// P8.1, P8.2: each sample below a directory, alone and with others ahead and behind.
func TestSamplesBelow(t *testing.T) {
	for _, s := range samples() {
		checkShow(t, dir(in("b", s.node)), "d1:1:b"+s.text)
		checkShow(t, dir(in("a", dir()), in("b", s.node), in("c", file("1"))), "d3:1:ad0:1:b"+s.text+"1:cf1:1")
		want := list("/ d", "/a d", "/b "+strings.TrimPrefix(s.lines[0], "/ "))
		for _, line := range s.lines[1:] {
			want = append(want, "/b"+line)
		}
		want = append(want, "/c l 1")
		got, e := spell.List(dir(in("a", dir()), in("b", s.node), in("c", link("1"))))
		if !slices.Equal(got, want) || e != api.OK {
			t.Errorf("List with %.300q below = %.300q, %d; want %.300q", s.text, got, e, want)
		}
	}
}

// P8.1: the examples of the chapter.
func TestExamples(t *testing.T) {
	checkShow(t, file("x"), "f1:x")
	n := dir(in("a", file("x")), in("d", dir()))
	checkShow(t, n, "d2:1:af1:x1:dd0:")
	if got, e := spell.List(n); !slices.Equal(got, list("/ d", "/a f x", "/d d")) || e != api.OK {
		t.Errorf("List = %q, %d", got, e)
	}
	for _, s := range list("f01:x", "f2:x") {
		if n, e := spell.Parse(s); e != api.ErrForm {
			t.Errorf("Parse(%q): a node of Kind %d, %d", s, n.Kind, e)
		}
	}
}

// P8.1: a text, and a name, of each byte that it may have.
func TestEachByte(t *testing.T) {
	for i := 1; i < 256; i++ {
		text := string([]byte{byte(i), 'a', byte(i)})
		shown := strings.NewReplacer(`\`, `\\`, "\n", `\n`).Replace(text)
		checkShow(t, file(text), "f3:"+text)
		checkShow(t, link(text), "l3:"+text)
		if got, e := spell.List(link(text)); !slices.Equal(got, list("/ l "+shown)) || e != api.OK {
			t.Errorf("List of a link %q = %q, %d", text, got, e)
		}
		if i == '/' || i == '\n' {
			continue
		}
		n := dir(in(text, dir(in(text, file(text)))))
		checkShow(t, n, "d1:3:"+text+"d1:3:"+text+"f3:"+text)
		named := strings.ReplaceAll(shown, " ", `\s`)
		if got, e := spell.List(n); !slices.Equal(got, list("/ d", "/"+named+" d", "/"+named+"/"+named+" f "+shown)) || e != api.OK {
			t.Errorf("List with names %q = %q, %d", text, got, e)
		}
	}
}

// P8.1: texts and names of each length that they may have.
func TestEachLength(t *testing.T) {
	for i := 1; i <= api.MaxText; i++ {
		text := strings.Repeat("x", i)
		checkShow(t, link(text), "l"+strconv.Itoa(i)+":"+text)
		if i <= api.MaxName {
			checkShow(t, dir(in(text, file(""))), "d1:"+strconv.Itoa(i)+":"+text+"f0:")
		}
	}
}

// P8.1, R6: an empty list is none.
func TestEmptyLists(t *testing.T) {
	for _, x := range []struct{ kind, text, line string }{{"\x01", "f0:", "/ f "}, {"\x02", "d0:", "/ d"}} {
		n := api.Node{Kind: x.kind[0], Names: []string{}, Kids: []api.Node{}}
		if got, e := spell.Show(n); got != x.text || e != api.OK {
			t.Errorf("Show = %q, %d", got, e)
		}
		if got, e := spell.List(n); !slices.Equal(got, list(x.line)) || e != api.OK {
			t.Errorf("List = %q, %d", got, e)
		}
	}
}

// P8.1, P8.2: numbers of 6 digits.
func TestSixDigits(t *testing.T) {
	n, text := wide(999999, file("")), wideText(999999, "f0:")
	checkShow(t, n, text)
	if got, e := spell.List(n); len(got) != 1000000 || got[999999] != "/k1999998 f " || e != api.OK {
		t.Errorf("List = %d lines, %d", len(got), e)
	}
}

// P8.1: numbers of 7 digits, at the node and below it.
func TestSevenDigits(t *testing.T) {
	n := wide(1000000, file(""))
	for _, n := range []api.Node{n, chain(1, n), chain(3, n), dir(in("a", file("x")), in("b", n), in("c", dir()))} {
		if text, e := spell.Show(n); text != "" || e != api.ErrForm {
			t.Errorf("Show = %d bytes, %d", len(text), e)
		}
		if lines, e := spell.List(n); lines != nil || e != api.ErrForm {
			t.Errorf("List = %d lines, %d", len(lines), e)
		}
	}
	checkNoText(t, wideText(1000000, "f0:"))
	checkNoText(t, "d1:1:a"+wideText(1000000, "f0:"))
}

// P8.1, P8.2: directories deep within one another, of which there may be more than a tree has.
func TestDeep(t *testing.T) {
	for _, depth := range []int{api.MaxDepth, api.MaxDepth + 1, api.MaxNodes + 1, 1<<16 - 1} {
		checkShow(t, chain(depth, file("x")), strings.Repeat("d1:1:d", depth)+"f1:x")
		checkShow(t, chain(depth, dir()), strings.Repeat("d1:1:d", depth)+"d0:")
	}
	if got, e := spell.List(chain(2000, link("x"))); !slices.Equal(got, chainLines(2000, "l x")) || e != api.OK {
		t.Errorf("List of a deep chain: %d lines, %d", len(got), e)
	}
}

// R2: calls do not see one another, also where several goroutines make them.
func TestAtTheSameTime(t *testing.T) {
	done := make(chan bool)
	for range 8 {
		go func() {
			for _, s := range samples() {
				text, _ := spell.Show(s.node)
				lines, _ := spell.List(s.node)
				n, _ := spell.Parse(text)
				if text != s.text || !slices.Equal(lines, s.lines) || !ftree.Same(n, s.node) {
					t.Errorf("of %.100q: %.100q, %.100q", s.text, text, lines)
				}
			}
			done <- true
		}()
	}
	for range 8 {
		<-done
	}
}
