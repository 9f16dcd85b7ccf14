package spell_test

import (
	"strings"
	"testing"

	"touchstone/api"
	"touchstone/spell"
)

// illFormed are nodes that are not well formed, of each kind of fault.
func illFormed() []api.Node {
	return []api.Node{
		{}, {Kind: 4}, {Kind: 255}, {Text: "x"}, {Kind: 4, Text: "x"}, {Names: list("a"), Kids: []api.Node{file("")}},
		file(longestText + "t"), file("\x00"), file("a\x00b"),
		{Kind: api.File, Names: list("a")}, {Kind: api.File, Kids: []api.Node{file("")}}, {Kind: api.File, Text: "x", Names: list("a"), Kids: []api.Node{file("")}},
		link(""), link(longestText + "t"), link("\x00"), link("a\x00"),
		{Kind: api.Link, Text: "x", Names: list("a")}, {Kind: api.Link, Text: "x", Kids: []api.Node{file("")}}, {Kind: api.Link, Text: "x", Names: list("a"), Kids: []api.Node{dir()}},
		{Kind: api.Dir, Text: "x"}, {Kind: api.Dir, Text: "x", Names: list("a"), Kids: []api.Node{file("")}},
		{Kind: api.Dir, Names: list("a")}, {Kind: api.Dir, Names: list("a", "b"), Kids: []api.Node{file("")}},
		{Kind: api.Dir, Kids: []api.Node{file("")}}, {Kind: api.Dir, Names: list("a"), Kids: []api.Node{file(""), file("")}},
		dir(in("b", file("")), in("a", file(""))), dir(in("a", file("")), in("c", file("")), in("b", file(""))), dir(in("a", file("")), in("B", file(""))),
		dir(in("a", file("")), in("a", file(""))), dir(in("a", file("")), in("b", dir()), in("b", dir())), dir(in("aa", dir()), in("a", dir())), dir(in("\xff", dir()), in("\x7f", dir())),
		dir(in("", file(""))), dir(in(".", file(""))), dir(in("..", dir())), dir(in("a/b", file(""))), dir(in("/", file(""))), dir(in("a\n", file(""))), dir(in("\x00", file(""))), dir(in(longestName+"n", file(""))),
		dir(in(".", file("")), in("a", file(""))), dir(in("a", file("")), in("a/b", file(""))), dir(in("a", file("")), in("b\n", file(""))),
	}
}

// P8.1: nodes that are not well formed have neither text nor list, whatever stands above and beside them.
func TestIllFormed(t *testing.T) {
	for i, n := range illFormed() {
		for _, x := range []api.Node{n, chain(1, n), chain(30, n), dir(in("a", n), in("b", dir())), dir(in("a", file("x")), in("b", n)), dir(in("a", dir(in("b", n))), in("c", file("")))} {
			if text, e := spell.Show(x); text != "" || e != api.ErrForm {
				t.Errorf("Show of ill-formed node %d = %.100q, %d", i, text, e)
			}
			if lines, e := spell.List(x); lines != nil || e != api.ErrForm {
				t.Errorf("List of ill-formed node %d = %.100q, %d", i, lines, e)
			}
		}
	}
}

// checkNoText checks that a text is no node's.
func checkNoText(t *testing.T, s string) {
	t.Helper()
	n, e := spell.Parse(s)
	if e != api.ErrForm || n.Kind != api.Absent || n.Text != "" || n.Names != nil || n.Kids != nil {
		t.Errorf("Parse(%.200q): a node of Kind %d, %d", s, n.Kind, e)
	}
}

// noTexts are texts that are no node's, and that do not become one's by what stands behind them, as far as digits, colons
// and letters of Kinds go.
func noTexts() []string {
	return list(
		// A letter that is unknown, or stands elsewhere.
		"x", "x1:x", "x0:", "F1:x", "D0:", "L1:x", "a0:", "\x000:", "\x010:", " f0:", "\nf0:", "0:", "1:x", ":", ":f0:", "ff0:", "é0:", "-0:",
		// A number that is missing, or is not of the form.
		"f:", "f:x", "l:x", "d:", "d:1:af0:", "fx", "f-1:x", "f-0:", "f+0:", "f+1:x", "l+1:x", "d+1:1:af0:", "d-0:", "d-1:", "d+0:", "f 1:x", "f1 :x", "f\t1:x", "f1_0:xxxxxxxxxx", "f0x1:x", "f1.0:x", "f1e0:x", "f٣:xxx", "f--1:x", "f1:x:", "fa:", "d ", "f\n0:", "d0 :",
		"f00:", "f01:x", "l01:x", "d00:", "d01:1:af0:", "d1:01:af0:", "f0001:x", "f000000:", "f0000001:x", "d0000000:", "f007:xxxxxxx", "d1:-1:f0:", "d1:+1:af0:", "d1:0:f0:", "d1: 1:af0:", "d1::f0:", "d1:af0:",
		// A colon that is missing.
		"f1x", "f1;x", "l1.x", "d1,1:af0:", "d1;1:af0:", "d1:1af0:", "d1:1;af0:", "f0;", "d0.",
		// Names that may not be, that are the same, or do not rise.
		"d1:1:/f0:", "d1:1:.f0:", "d1:2:..d0:", "d1:3:a/bf0:", "d1:1:\nf0:", "d1:2:a\nf0:", "d1:1:\x00f0:", "d1:65:"+longestName+"nf0:",
		"d2:1:af0:1:af0:", "d2:1:bf0:1:af0:", "d3:1:af0:1:cf0:1:bd0:", "d2:2:aaf0:1:af0:", "d2:1:af0:1:Bf0:", "d2:1:\xfff0:1:\x7ff0:", "d2:1:ad1:1:ad0:1:ad0:", "d3:1:ad0:1:bd0:1:bd0:",
		// Texts that may not be.
		"f257:"+longestText+"t", "l257:"+longestText+"t", "f1:\x00", "l1:\x00", "f3:a\x00b", "l2:a\x00", "l0:", "d1:1:al0:", "f999999:"+strings.Repeat("x", 999999), "l1000:"+strings.Repeat("x", 1000),
		// A name without its node.
		"d1:1:a1:b", "d1:1:a:", "d1:1:ax0:", "d2:1:a1:bf0:", "d2:1:af0:1:b1:c",
	)
}

// cutTexts are texts of which something is missing at the end.
func cutTexts() []string {
	return list(
		"", "f", "l", "d", "f1", "l1", "d1", "f0", "d0", "f1:", "f2:x", "l1:", "l2:x", "l256:x", "f256:"+longestText[1:], "f999999:", "l999999:x", "f3:ab",
		"d1:", "d1:1", "d1:1:", "d1:1:a", "d1:2:a", "d1:2:af", "d1:1:af", "d1:1:af1", "d1:1:af1:", "d1:1:ad1:", "d2:1:af0:", "d2:1:af0:1", "d2:1:af0:1:", "d2:1:af0:1:b", "d2:1:ad1:1:bf0:", "d999999:", "d999999:1:ad0:",
		"d1:999999:", "d1:999999:af0:",
	)
}

// leftOver are texts that have more bytes than they tell.
func leftOver() []string {
	return list("f0:x", "f1:xx", "f0:f0:", "f1:x\n", "f1:x ", "l1:xx", "l1:x\x00", "d0:d0:", "d0::", "d0:0", "d0:1:af0:", "d1:1:af0:f0:", "d1:1:af0:1:bf0:", "d1:1:af1:xx", "d1:1:ad0:\n", "d1:1:ad1:1:af0: ", "d0:\n", "f0:\x00")
}

// P8.1: texts that are no node's text, alone, with something behind them, and as a name's node.
func TestNoTexts(t *testing.T) {
	for _, s := range noTexts() {
		for _, ahead := range list("", "d1:1:a", "d2:1:Af0:1:a", "d1:1:ad1:1:b", strings.Repeat("d1:1:a", 40)) {
			for _, behind := range list("", "f0:", "1:zf0:", "1:zf0:1:zzd0:", ":", "x", "\n", "\x00", strings.Repeat("y", 300), strings.Repeat("1:zf0:", 1000)) {
				checkNoText(t, ahead+s+behind)
			}
		}
	}
	for _, s := range append(cutTexts(), leftOver()...) {
		for _, ahead := range list("", "d1:1:a", "d2:1:Af0:1:a", "d1:1:ad1:1:b", strings.Repeat("d1:1:a", 40)) {
			checkNoText(t, ahead+s)
		}
	}
}

// P8.1: numbers of more than 6 digits are none, also where so many bytes stand there, or the number is far greater than any.
func TestLongNumbers(t *testing.T) {
	million := strings.Repeat("x", 1000000)
	for _, letter := range list("f", "l", "d", "d1:") {
		for _, number := range list("1000000", "9999999", "0000000", "0000001", "1000001", "9223372036854775807", "9223372036854775808", "18446744073709551616", "18446744073709551617", "4294967297", strings.Repeat("9", 1000), strings.Repeat("0", 1000)+"1") {
			checkNoText(t, letter+number)
			checkNoText(t, letter+number+":")
			checkNoText(t, letter+number+":x")
			checkNoText(t, letter+number+":1:af0:")
			checkNoText(t, letter+number+":"+million)
		}
	}
}

// P8.1, P8.2: of a node's text each beginning that is cut is none, nor is it with any byte behind it.
func TestCutAndLeftOver(t *testing.T) {
	for _, s := range samples() {
		if len(s.text) > 400 {
			continue
		}
		for i := range len(s.text) {
			checkNoText(t, s.text[:i])
			checkNoText(t, "d1:1:a"+s.text[:i])
		}
		for i := range 256 {
			checkNoText(t, s.text+string([]byte{byte(i)}))
			checkNoText(t, "d1:1:a"+s.text+string([]byte{byte(i)}))
		}
	}
}

// P8.1, R1: very long rows of what begins nodes, and of what is none.
func TestLongRows(t *testing.T) {
	for _, piece := range list("d", "f", "1", "0", ":", "d1:", "d1:1:a", "d2:1:a", "d999999:1:a", "f1:", "1:a", "d0:", "x", "\x00", "d1:1:af0:") {
		for _, count := range []int{1000, 1 << 16, 1 << 18} {
			checkNoText(t, strings.Repeat(piece, count))
			checkNoText(t, "d1:1:a"+strings.Repeat(piece, count))
		}
	}
}

// R1: calls end, however far directories go down.
func TestDeeperThanPromised(t *testing.T) {
	for _, end := range list("f0:", "d0:", "l0:", "d1:", "") {
		spell.Parse(strings.Repeat("d1:1:a", 1<<20) + end)
	}
	spell.Show(chain(1<<18, file("x")))
	spell.Show(chain(1<<18, link("")))
	spell.List(chain(1<<18, link("")))
}
