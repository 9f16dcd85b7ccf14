package il_test

import (
	"slices"
	"strconv"
	"strings"
	"testing"

	"touchstone/api"
	"touchstone/il"
)

// checkShown checks an instruction's lines.
func checkShown(t *testing.T, i api.Ins, want ...string) {
	t.Helper()
	lines, e := il.Show(i)
	if e != api.OK || !slices.Equal(lines, want) {
		t.Errorf("Show = %.500q, %d; want %.500q", lines, e, want)
	}
	if !il.May(i) {
		t.Errorf("May(%s) = false", short(i))
	}
}

// P16.1: the lines of each Kind.
func TestLines(t *testing.T) {
	skip, a := of(api.ISkip), one(bare("a"))
	checkShown(t, skip, "skip")
	checkShown(t, of(api.ICheck), "check")
	checkShown(t, of(api.INot), "not")
	checkShown(t, assign("x", one()), "assign x =0:")
	checkShown(t, assign("Name_9", a), "assign Name_9 =5:bp1:a")
	checkShown(t, assign("x", one(bare("~"), quotedParam("1"))), "assign x =10:bp1:~vq1:1")
	checkShown(t, call(a), "call =5:bp1:a")
	checkShown(t, call(split(), one(), split()), "call *0: =0: *0:")
	checkShown(t, seq(), "seq")
	checkShown(t, seq(skip), "seq", " skip")
	checkShown(t, of(api.IIf, of(api.INot), skip, of(api.ICheck)), "if", " not", " skip", " check")
	checkShown(t, of(api.ILoop, aCall("b"), seq()), "loop", " call *5:bp1:b", " seq")
	checkShown(t, forEach("x", skip), "each x", " skip")
	checkShown(t, forEach("x", skip, a, split(param("y"))), "each x =5:bp1:a *5:vp1:y", " skip")
}

// P16.1: the text of an item: of parts of each sort, and numbers of more digits than one.
func TestItemTexts(t *testing.T) {
	for _, x := range []struct {
		parts []api.Part
		text  string
	}{
		{nil, "0:"},
		{list(bare("a")), "5:bp1:a"},
		{list(quoted("a")), "5:bq1:a"},
		{list(param("x")), "5:vp1:x"},
		{list(quotedParam("x")), "5:vq1:x"},
		{list(quoted("")), "4:bq0:"},
		{list(bare("a"), quoted(""), param("?")), "14:bp1:abq0:vp1:?"},
		{list(quoted("line\nend")), "12:bq8:line\nend"},
		{list(quoted("\n")), "5:bq1:\n"},
		{list(quoted(" a ")), "7:bq3: a "},
		{list(bare("5:bp1:a")), "11:bp7:5:bp1:a"},
		{list(bare(":"), param("x"), quoted(": ")), "16:bp1::vp1:xbq2:: "},
		{list(quoted("\nskip")), "9:bq5:\nskip"},
		{list(bare("#vp1:x")), "10:bp6:#vp1:x"},
		{list(bare("é\xff")), "7:bp3:é\xff"},
		{list(bare("123456")), "10:bp6:123456"},
		{list(bare("1234567")), "11:bp7:1234567"},
		{list(bare("123456789")), "13:bp9:123456789"},
		{list(bare("1234567890")), "15:bp10:1234567890"},
		{list(param("x"), param("y"), quotedParam("z"), quotedParam("#")), "20:vp1:xvp1:yvq1:zvq1:#"},
		{list(param(lettersOf(api.MaxName))), "69:vp64:" + lettersOf(api.MaxName)},
	} {
		checkShown(t, assign("x", one(x.parts...)), "assign x ="+x.text)
		checkShown(t, call(split(x.parts...)), "call *"+x.text)
		checkShown(t, call(one(x.parts...), split(bare("a")), split(x.parts...)), "call ="+x.text+" *5:bp1:a *"+x.text)
		checkShown(t, forEach("x", of(api.ISkip), one(x.parts...), split(x.parts...)), "each x ="+x.text+" *"+x.text, " skip")
		checkShown(t, seq(assign("x", one(x.parts...)), seq(call(split(x.parts...)))), "seq", " assign x ="+x.text, " seq", "  call *"+x.text)
	}
	for _, length := range list(1, 9, 10, 95, 96, 99, 100, 101, 994, 995, 999, 1000, 9999, 10000, 100000) {
		number := strconv.Itoa(length)
		text := "bp" + number + ":" + strings.Repeat("b", length)
		checkShown(t, call(one(bare(strings.Repeat("b", length)))), "call ="+strconv.Itoa(length+len(number)+3)+":"+text)
	}
	checkShown(t, call(times(api.MaxArgs, split(param("x")))...), "call"+strings.Repeat(" *5:vp1:x", api.MaxArgs))
}

// P16.1: Kids behind one another, and within one another: as many blanks stand ahead as there are instructions around.
func TestBlanksAhead(t *testing.T) {
	skip, not := of(api.ISkip), of(api.INot)
	checkShown(t, seq(seq(skip), not, seq(seq(), skip)), "seq", " seq", "  skip", " not", " seq", "  seq", "  skip")
	checkShown(t, of(api.IIf, of(api.ILoop, skip, not), forEach("x", seq(not)), seq(skip, skip)), "if", " loop", "  skip", "  not", " each x", "  seq", "   not", " seq", "  skip", "  skip")
	checkShown(t, seq(call(one(quoted("\n"))), skip), "seq", " call =5:bq1:\n", " skip")
	deep, want := not, list("not")
	for range 300 {
		deep = of(api.ILoop, skip, forEach("x", deep))
		behind := want
		want = list("loop", " skip", " each x")
		for _, line := range behind {
			want = append(want, "  "+line)
		}
	}
	checkShown(t, deep, want...)
	deeper := skip
	for range 5000 {
		deeper = seq(deeper)
	}
	lines, e := il.Show(deeper)
	if e != api.OK || len(lines) != 5001 || lines[4999] != strings.Repeat(" ", 4999)+"seq" || lines[5000] != strings.Repeat(" ", 5000)+"skip" {
		t.Errorf("5000 deep: %d lines, %d", len(lines), e)
	}
	checkShown(t, seq(times(1000, skip)...), append(list("seq"), times(1000, " skip")...)...)
}

// P16.1: what may not be is not shown.
func TestNotShown(t *testing.T) {
	good := oneOfEach()
	for _, bad := range []api.Ins{{}, of(0), of(api.IEach + 1), call(), of(api.IIf), assign("1", one()), assign("x", split()), forEach("", seq())} {
		for _, i := range list(bad, seq(bad), seq(append(slices.Clone(good), bad)...), seq(append(list(bad), good...)...), of(api.IIf, seq(), seq(), seq(seq(bad)))) {
			if lines, e := il.Show(i); lines != nil || e != api.ErrForm {
				t.Errorf("Show(%s) = %.300q, %d", short(i), lines, e)
			}
		}
	}
}
