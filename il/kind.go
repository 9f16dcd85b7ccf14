package il

import (
	"iter"
	"slices"
	"strings"

	"touchstone/api"
	"touchstone/word"
)

// kind is what an instruction of a Kind has.
type kind struct {
	word  string                      // it begins its line
	named bool                        // it has a Name, which it sets
	items func(items []api.Item) bool // whether it may have these
	kids  func(count int) bool        // whether it may have so many
}

// kinds are all Kinds that there are.
func kinds() map[uint8]kind {
	exactly := func(wanted int) func(count int) bool {
		return func(count int) bool { return count == wanted }
	}
	anyCount := func(int) bool { return true }
	atLeast := func(least int) func(items []api.Item) bool {
		return func(items []api.Item) bool {
			return len(items) >= least && len(items) <= api.MaxArgs && !slices.ContainsFunc(items, itemMayNot)
		}
	}
	noItem := func(items []api.Item) bool { return len(items) == 0 }
	oneText := func(items []api.Item) bool {
		return len(items) == 1 && !items[0].Split && itemMay(items[0])
	}
	return map[uint8]kind{
		api.ISkip:   {word: "skip", items: noItem, kids: exactly(0)},
		api.ICheck:  {word: "check", items: noItem, kids: exactly(0)},
		api.INot:    {word: "not", items: noItem, kids: exactly(0)},
		api.IAssign: {word: "assign", named: true, items: oneText, kids: exactly(0)},
		api.ICall:   {word: "call", items: atLeast(1), kids: exactly(0)},
		api.ISeq:    {word: "seq", items: noItem, kids: anyCount},
		api.IIf:     {word: "if", items: noItem, kids: exactly(3)},
		api.ILoop:   {word: "loop", items: noItem, kids: exactly(2)},
		api.IEach:   {word: "each", named: true, items: atLeast(0), kids: exactly(1)},
	}
}

// fits tells whether an instruction of that Kind may be, whatever its Kids are.
func (k kind) fits(i api.Ins) bool {
	named := i.Name != ""
	return named == k.named && (!named || isName(i.Name)) && k.items(i.Items) && k.kids(len(i.Kids))
}

// line is the line of an instruction of that Kind that may be.
func (k kind) line(i api.Ins) string {
	words := []string{k.word}
	if k.named {
		words = append(words, i.Name)
	}
	for _, item := range i.Items {
		words = append(words, itemText(item))
	}
	return strings.Join(words, " ")
}

// within are an instruction and all that are in it, each behind that of which it is a Kid, with how many there are around it.
func within(i api.Ins) iter.Seq2[int, api.Ins] {
	return func(yield func(depth int, i api.Ins) bool) {
		var goDown func(depth int, i api.Ins) bool
		goDown = func(depth int, i api.Ins) bool {
			if !yield(depth, i) {
				return false
			}
			for _, kid := range i.Kids {
				if !goDown(depth+1, kid) {
					return false
				}
			}
			return true
		}
		goDown(0, i)
	}
}

// isName tells whether a text is a name that a value can be given to.
func isName(s string) bool { return word.Param(s) && !isGiven(s) }

// isGiven tells whether a parameter's name is one of those whose values no instruction sets.
func isGiven(name string) bool { return len(name) == 1 && strings.Contains("123456789#?", name) }
