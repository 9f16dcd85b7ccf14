package syntax_test

import (
	"slices"
	"strings"
	"testing"

	"touchstone/api"
	"touchstone/syntax"
)

// The grammar, for a second reading: what is left to come stands on a stack, all stacks that can be are gone through at once.
// noword and last take no token: no word may come next, behind other words, or behind an assignment.
var grammar = map[string][][]string{
	"script": {{"lines"}, {"list"}},
	"lines":  {{}, {"\n", "lines"}},
	"list":   {{"lines", "row", "tail"}},
	"tail":   {{}, {"sep"}, {"sep", "row", "tail"}},
	"sep":    {{";", "lines"}, {"\n", "lines"}},
	"row":    {{"one", "more"}},
	"more":   {{}, {"&&", "lines", "one", "more"}, {"||", "lines", "one", "more"}},
	"one": {
		{"!", "one"}, {"first", "words"}, {"assign", "last"}, {"{", "list", "}"},
		{"if", "list", "then", "list", "elses", "fi"}, {"while", "list", "do", "list", "done"}, {"until", "list", "do", "list", "done"},
		{"for", "name", "lines", "in", "words", "sep", "do", "list", "done"},
	},
	"elses": {{}, {"else", "list"}, {"elif", "list", "then", "list", "elses"}},
	"words": {{"any", "words"}, {"noword"}},
}

// sample is a token, and which of the grammar's ends it may be.
type sample struct {
	text      string
	ends      []string
	isWord    bool
	isRefused bool // word.Of refuses it at its second byte
	never     bool // where a command begins, it is not supported
}

func samples() []sample {
	all := []sample{
		{text: "a", ends: []string{"any", "first", "name"}, isWord: true},
		{text: "'b'", ends: []string{"any", "first"}, isWord: true},
		{text: "x=1", ends: []string{"any", "assign"}, isWord: true},
		{text: "a*", isWord: true, isRefused: true},
		{text: "i\\\nf", ends: []string{"any"}, isWord: true, never: true},
		{text: "case", ends: []string{"any", "name"}, isWord: true, never: true},
		{text: "[[", isWord: true, never: true},
		{text: "esac", ends: []string{"any", "name"}, isWord: true},
		{text: "|"}, {text: "("},
	}
	for _, text := range strings.Fields("if then elif else fi while until do done for in") {
		all = append(all, sample{text: text, ends: []string{"any", "name", text}, isWord: true})
	}
	for _, text := range strings.Fields("! { }") {
		all = append(all, sample{text: text, ends: []string{"any", text}, isWord: true})
	}
	for _, text := range []string{";", "\n", "&&", "||"} {
		all = append(all, sample{text: text, ends: []string{text}})
	}
	return all
}

// open goes through a stack's ways until each begins by an end; it tells these stacks, and whether one of them can be at its end.
func open(stack []string, isWord bool, seen func(end string), found func(rest []string)) bool {
	if len(stack) == 0 {
		return true
	}
	top, rest := stack[0], stack[1:]
	bodies, is := grammar[top]
	if !is {
		seen(top)
		if top != "noword" && top != "last" {
			found(stack)
			return false
		}
		return !isWord && open(rest, isWord, seen, found)
	}
	ended := false
	for _, body := range bodies {
		ended = open(slices.Concat(body, rest), isWord, seen, found) || ended
	}
	return ended
}

// step takes a token: it tells the stacks that are left, and what could have stood there.
func step(stacks [][]string, s sample) (left [][]string, could map[string]bool) {
	could = map[string]bool{}
	for _, stack := range stacks {
		open(stack, s.isWord, func(end string) { could[end] = true }, func(found []string) {
			if slices.Contains(s.ends, found[0]) && !slices.ContainsFunc(left, func(l []string) bool { return slices.Equal(l, found[1:]) }) {
				left = append(left, found[1:])
			}
		})
	}
	return left, could
}

// isWhole tells whether a script may end there.
func isWhole(stacks [][]string) bool {
	return slices.ContainsFunc(stacks, func(stack []string) bool {
		return open(stack, false, func(string) {}, func([]string) {})
	})
}

// blame tells what is wrong with a token that may not stand where others could, and at which of its bytes.
func blame(s sample, could map[string]bool) (int, api.Errno) {
	mayBegin := could["first"]
	switch {
	case s.text == "|" || s.text == "(" || could["in"]:
		return 0, api.ErrNever
	case s.isRefused && (could["any"] || could["last"] || mayBegin):
		return 1, api.ErrNever
	case s.text == "[[" && could["any"]:
		return 0, api.ErrNever
	case s.isWord && could["last"], s.never && mayBegin:
		return 0, api.ErrNever
	}
	return 0, api.ErrSyntax
}

// prefix is a script so far.
type prefix struct {
	text   string
	stacks [][]string
}

// next puts one more token behind; of one that may not stand there, the fault is told, and whatever stands behind it.
func (p prefix) next(t *testing.T, s sample) (prefix, bool) {
	left, could := step(p.stacks, s)
	text := p.text + s.text + " "
	if len(left) == 0 {
		at, e := blame(s, could)
		checkFaults(t, []fault{{text, len(p.text) + at, e}, {text + "; fi | a* 'b' ", len(p.text) + at, e}})
		return prefix{}, false
	}
	next := prefix{text, left}
	if !isWhole(left) {
		checkFaults(t, []fault{{text, len(text), api.ErrSyntax}})
	} else if c, at, e := syntax.Parse(text); e != api.OK || at != 0 || !syntax.May(c) {
		t.Errorf("Parse(%q) = %s, %d, %d", text, placed(c), at, e)
	}
	return next, true
}

// P3.1: all scripts of few tokens.
func TestAllShortScripts(t *testing.T) {
	all := samples()
	count := 0
	var goOn func(p prefix, levels int)
	goOn = func(p prefix, levels int) {
		count++
		for _, s := range all {
			if next, ok := p.next(t, s); ok && levels > 1 && !t.Failed() {
				goOn(next, levels-1)
			}
		}
	}
	goOn(prefix{"", [][]string{{"script"}}}, 4)
	if count < 1500 {
		t.Error("so many beginnings of scripts:", count)
	}
}

// P3.1: longer scripts, token by token, each with what may stand next and what may not.
func TestLongerScripts(t *testing.T) {
	all := samples()
	d := dice(6)
	for range 3000 {
		p := prefix{"", [][]string{{"script"}}}
		// Deeper than MaxNest, what is whole would be too large.
		for range 22 {
			next, ok := p.next(t, pick(&d, all...))
			if ok {
				p = next
				continue
			}
			for _, s := range all[d.roll(len(all)):] {
				if slices.Contains([]string{"then", "do", "in", "fi", "done", "a"}, s.text) {
					if next, ok := p.next(t, s); ok {
						p = next
						break
					}
				}
			}
		}
		if t.Failed() {
			return
		}
	}
}
