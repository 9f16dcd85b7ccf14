// Package lex is layer 1: tokens of a script; see shared/doc/01-lex.md.
package lex

import (
	"strings"

	"touchstone/api"
)

// operators has the longer ones first, so that the first one that fits is the longest one.
var operators = [...]string{"&&", "||", ";;", "<<", ">>", ";", "&", "|", "<", ">", "(", ")"}

// Tokens are a script's tokens; of a script that is not of the form, the place at which it is wrong.
func Tokens(script string) ([]api.Token, int, api.Errno) {
	if len(script) > api.MaxScript {
		return nil, 0, api.ErrTooLarge
	}
	// The tokens' texts are pieces of a copy, for an answer shares no memory with an argument.
	tokens, quote := cut(strings.Clone(script))
	fault := min(quote, firstNul(script))
	if fault < len(script) {
		return nil, fault, api.ErrSyntax
	}
	return tokens, 0, api.OK
}

// firstNul is the place of a script's first byte 00, or the script's end.
func firstNul(script string) int {
	at := strings.IndexByte(script, 0)
	if at < 0 {
		return len(script)
	}
	return at
}

// cut cuts a script into tokens, up to a quote that does not end: it tells that one's place, or the script's end.
func cut(script string) ([]api.Token, int) {
	operatorAt := func(at int) string {
		for _, op := range operators {
			if strings.HasPrefix(script[at:], op) {
				return op
			}
		}
		return ""
	}
	// Each byte that ends a word beside blanks and line's ends is an operator by itself.
	endsWord := func(at int) bool {
		return isBlank(script[at]) || script[at] == '\n' || operatorAt(at) != ""
	}
	var tokens []api.Token
	at := skipGap(script, 0)
	for at < len(script) {
		token := api.Token{Kind: api.Op, Text: operatorAt(at), At: at}
		if script[at] == '\n' {
			token.Kind, token.Text = api.Newline, "\n"
		} else if token.Text == "" {
			end, closed := wordEnd(script, at, endsWord)
			if !closed {
				return nil, end
			}
			token.Kind, token.Text = wordKind(script[at:end]), script[at:end]
		}
		tokens = append(tokens, token)
		at = skipGap(script, at+len(token.Text))
	}
	return tokens, len(script)
}

func isBlank(b byte) bool { return b == ' ' || b == '\t' }

// skipGap is the place behind what stands ahead of a token: blanks, remarks, backslashes with a line's end.
func skipGap(script string, at int) int {
	for at < len(script) {
		switch {
		case isBlank(script[at]):
			at++
		case strings.HasPrefix(script[at:], "\\\n"):
			at += 2
		case script[at] == '#':
			at = remarkEnd(script, at)
		default:
			return at
		}
	}
	return at
}

// remarkEnd is the place of the next line's end, which is a token, or the script's end.
func remarkEnd(script string, at int) int {
	length := strings.IndexByte(script[at:], '\n')
	if length < 0 {
		return len(script)
	}
	return at + length
}

// wordEnd is the place behind the word at a place, and yes; or that of its quote that does not end, and no.
func wordEnd(script string, at int, endsWord func(at int) bool) (int, bool) {
	for at < len(script) && !endsWord(at) {
		end, closed := pieceEnd(script, at)
		if !closed {
			return at, false
		}
		at = end
	}
	return at, true
}

// pieceEnd is the place behind those bytes of a word that belong together: a quoted stretch, a backslash with the byte behind it, or one byte; of a quote that does not end it says no.
func pieceEnd(script string, at int) (int, bool) {
	switch script[at] {
	case '\\':
		return min(at+2, len(script)), true
	case '\'':
		return singleEnd(script, at)
	case '"':
		return doubleEnd(script, at)
	}
	return at + 1, true
}

// singleEnd is the place behind what stands in single quotes, where a backslash is a byte like others.
func singleEnd(script string, at int) (int, bool) {
	length := strings.IndexByte(script[at+1:], '\'')
	return at + length + 2, length >= 0
}

// doubleEnd is the place behind what stands in double quotes, where a backslash keeps a quote from ending.
func doubleEnd(script string, at int) (int, bool) {
	for at++; at < len(script); at++ {
		switch script[at] {
		case '"':
			return at + 1, true
		case '\\':
			at++
		}
	}
	return at, false
}

// wordKind is the Kind of a word's token: some words are operators where they stand alone.
func wordKind(text string) uint8 {
	switch text {
	case "!", "{", "}":
		return api.Op
	}
	return api.Plain
}
