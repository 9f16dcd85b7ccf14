package il

import (
	"slices"
	"strconv"
	"strings"

	"touchstone/api"
	"touchstone/word"
)

// itemMay tells whether an item may be.
func itemMay(item api.Item) bool {
	if len(item.Parts) == 0 {
		return true
	}
	parts := slices.Clone(item.Parts)
	if first := &parts[0]; !first.Var && !first.Quoted && beginsAsNoWord(first.Text) {
		// Behind another byte what begins the item means no more than elsewhere.
		first.Text = "a" + first.Text
	}
	return word.May(api.Word{Parts: parts})
}

func itemMayNot(item api.Item) bool { return !itemMay(item) }

// beginsAsNoWord tells whether bytes that are not quoted begin as an item may, and a word may not.
func beginsAsNoWord(text string) bool {
	return strings.HasPrefix(text, "#") || strings.HasPrefix(text, "~")
}

// readIn are the names that are read in an item, as they stand there.
func readIn(item api.Item) []string {
	var names []string
	for _, part := range item.Parts {
		if part.Var && !isGiven(part.Text) {
			names = append(names, part.Text)
		}
	}
	return names
}

// itemText is an item's text.
func itemText(item api.Item) string {
	var parts strings.Builder
	for _, part := range item.Parts {
		parts.WriteString(partText(part))
	}
	return either(item.Split, "*", "=") + counted(parts.String())
}

// partText is the text of one of an item's parts.
func partText(part api.Part) string {
	return either(part.Var, "v", "b") + either(part.Quoted, "q", "p") + counted(part.Text)
}

// either is the one text, or the other.
func either(first bool, one, other string) string {
	if first {
		return one
	}
	return other
}

// counted is a text behind how many bytes it has.
func counted(text string) string { return strconv.Itoa(len(text)) + ":" + text }

// sameItem tells whether items are the same.
func sameItem(a, b api.Item) bool { return a.Split == b.Split && slices.Equal(a.Parts, b.Parts) }
