package probe_test

import (
	"slices"
	"strings"
	"testing"

	"touchstone/api"
	"touchstone/ftree"
	"touchstone/probe"
)

// The outcomes of a test: its codes.
const (
	holds = iota
	fails
	usage
)

// checkTest checks a test of these words by all three ways to run it.
func checkTest(t *testing.T, tree *ftree.Tree, outcome int, words ...string) {
	t.Helper()
	for _, name := range list("test", "[") {
		call, want := append(list(name), words...), ends(outcome)
		if name == "[" {
			call = append(call, "]")
		}
		if outcome == usage {
			want = usageOf(name)
		}
		checkRun(t, tree, want, call...)
	}
	for range 2 {
		does, is := probe.Holds(looked{tree, t}, words)
		if does != (outcome == holds) || is != (outcome != usage) {
			t.Fatalf("Holds of %.300q: %v, %v; want outcome %d", words, does, is, outcome)
		}
	}
}

// checkTests checks tests by their texts.
func checkTests(t *testing.T, outcome int, texts ...string) {
	t.Helper()
	tree := sample(t)
	for _, text := range texts {
		checkTest(t, tree, outcome, wordsOf(text)...)
	}
}

// P14.1, P14.2: no words never hold.
func TestNoneOfTest(t *testing.T) {
	for range 2 {
		checkTest(t, sample(t), fails)
		checkTest(t, treeOf(t), fails, list("a")[1:]...)
	}
}

// P14.1, P14.2: one word holds if it is not empty, whatever it looks like.
func TestOneWord(t *testing.T) {
	checkTests(t, fails, "")
	checkTests(t, holds, "a", "!", "=", "!=", "-n", "-z", "-e", "-f", "-d", "-L", "-h", "-x", "-", "--", "]", "[", "0", "1", "false", "test", "f", "/", "\x00", "\n", "\t", "\xff", strings.Repeat("a", 2*api.MaxText))
	checkTest(t, sample(t), holds, " ")
}

// P14.1, P14.2: two words: each row of the chapter's table.
func TestTwoWords(t *testing.T) {
	checkTests(t, holds, "! ", "-n a", "-n 0", "-n !", "-n =", "-n -n", "-n -z", "-n x", "-n \x00", "-n \n", "-n ]", "-z ", "-e f", "-e d", "-f f", "-d d", "-L to-f", "-h to-f", "-e !", "-f =", "-e -e", "-d -f", "-d ]", "-f none")
	checkTests(t, fails, "! a", "! !", "! =", "! !=", "! -e", "! -n", "! x", "! \x00", "-n ", "-z a", "-z -z", "-z 0", "-z !", "-z \n", "-e x", "-e -n", "-f d", "-d f", "-L f", "-h d", "-L -h", "-e -z", "-f -f", "-d =", "-e !=")
	checkTests(t, usage, "a b", " ", "a ", " a", "a !", "a =", "= a", "= =", "!= a", "a !=", "!= !=", "-x a", "-x ", "- a", "-- a", "a -e", "f -f", "-en f", "-nz a", "-E f", "-F f", "-D d", "-l to-f", "-H to-f", "-N a", "-Z ", "-s f", "-r f", "-w f", "-a a", "-o a", "n a", "e f", "!! a", "!a b", "] ]", "[ a", "( )", "!\x00 a", "-e\n f")
	checkTest(t, sample(t), holds, "-n", " ")
	checkTest(t, sample(t), fails, "-z", " ")
	checkTest(t, sample(t), fails, "!", " ")
	checkTest(t, sample(t), usage, "-n ", "a")
}

// operators are the words that ask something of the word behind them.
func operators() []string { return list("!", "-n", "-z", "-e", "-f", "-d", "-L", "-h") }

// P14.1, P14.2: a first one of two words that is an operator but for a byte is usage.
func TestNearOperators(t *testing.T) {
	tree := sample(t)
	for _, operator := range operators() {
		for _, word := range near(operator) {
			if slices.Contains(operators(), word) {
				continue
			}
			checkTest(t, tree, usage, word, "a")
			checkTest(t, tree, usage, word, "")
			if word != "=" && word != "!=" {
				checkTest(t, tree, usage, "!", word, "f")
			}
		}
	}
}

// P14.1, P14.2: = and != between two words hold them against one another byte by byte, whatever they look like.
func TestCompared(t *testing.T) {
	checkTests(t, holds, "a = a", " = ", "! = !", "= = =", "!= = !=", "-n = -n", "-z = -z", "-e = -e", "] = ]", "\x00 = \x00", "\n = \n", "\xff = \xff", "( = (",
		"a != b", " != a", "a != ", "! != =", "= != !=", "!= != =", "-n != n", "-f != x", "a != A", "a != aa", "0 != 00", "1 != 01", "1 != +1", "a != a\x00", "f != d", "f != ./f")
	checkTests(t, fails, "a = b", " = a", "a = ", "! = =", "! = a", "! = ", "= = !=", "-n = -z", "-n = a", "-f = x", "-f = f", "-e = f", "-z = ", "a = A", "a = a\x00", "a = aa", "0 = 00", "1 = 01", "a = a\n", "f = ./f", "* = a",
		"a != a", " != ", "! != !", "!= != !=", "= != =", "-n != -n", "-z != -z", "\n != \n")
	checkTest(t, sample(t), fails, "a", "=", "a ")
	checkTest(t, sample(t), holds, " ", "!=", "  ")
	long := strings.Repeat("l", 3*api.MaxValue)
	checkTest(t, sample(t), holds, long, "=", long)
	checkTest(t, sample(t), fails, long, "=", long+"l")
	checkTest(t, sample(t), holds, long+"k", "!=", long+"l")
}

// P14.1, P14.2: a middle one of three words that is = or != but for a byte is usage.
func TestNearComparisons(t *testing.T) {
	tree := sample(t)
	for _, word := range append(append(near("="), near("!=")...), "==", "=~", "<", ">", "-eq", "-ne", "-lt", "-nt", "-a", "-o", "eq", "-n", "-e", "!") {
		if word != "=" && word != "!=" {
			checkTest(t, tree, usage, "a", word, "a")
			checkTest(t, tree, usage, "", word, "")
			checkTest(t, tree, usage, "!", "a", word, "a")
		}
	}
}

// P14.1, P14.2: ! ahead of two words, and of three.
func TestNot(t *testing.T) {
	checkTests(t, holds, "! ! a", "! ! !", "! ! =", "! ! -e", "! -n ", "! -z a", "! -z !", "! -e x", "! -f d", "! -d f", "! -L f", "! -h d", "! -d x", "! -f x", "! -L x", "! -e =x",
		"! a = b", "! a != a", "! ! = x", "! ! != !", "! = != =", "! -n = -z", "! -f = x", "! ! -n a", "! ! -z ", "! ! -e f", "! ! -d d", "! ! -h to-x", "! ! ! ")
	checkTests(t, fails, "! ! ", "! -n a", "! -n =", "! -z ", "! -e f", "! -f f", "! -d d", "! -L to-f", "! -h to-x", "! -e !", "! -f =", "! -d ]",
		"! a = a", "! a != b", "! ! = !", "! ! != x", "! = = =", "! -n = -n", "! != = !=", "! ! -n ", "! ! -z a", "! ! -e x", "! ! -f d", "! ! ! a", "! ! ! !", "! ! ! =", "! = = =", "! = != x")
	checkTests(t, usage, "! a b", "!  ", "! a ", "! -x a", "! a =", "! a !=", "! -q ", "! a !", "! ] ]", "! -n a b", "! a b c", "! -e f d", "! ! a b", "! ! = ! !", "! ! -x a", "! a -e f", "! a == a", "! -n ! a", "! = a b", "! = a =", "! != a !=")
}

// P14.1, P14.2: = and != in the middle go ahead of ! in front.
func TestMiddleGoesAhead(t *testing.T) {
	tree := sample(t)
	for _, word := range list("", "a", "!", "=", "!=", "-e", "f") {
		is, isNot := fails, holds
		if word == "!" {
			is, isNot = holds, fails
		}
		checkTest(t, tree, is, "!", "=", word)
		checkTest(t, tree, isNot, "!", "!=", word)
		checkTest(t, tree, isNot, "!", "!", "=", word)
		checkTest(t, tree, is, "!", "!", "!=", word)
		// Without a ! in front of them these are none.
		checkTest(t, tree, usage, "=", word)
		checkTest(t, tree, usage, "!=", word)
	}
}

// P14.1, P14.2: what else there is of one to four words is usage, and all of more.
func TestUsage(t *testing.T) {
	checkTests(t, usage, "a b c", "a ! b", "a -n b", "-n a b", "-e f d", "-e f ]", "-n -n a", "( a )", "a b =", "= a b", "a a =", "-x a b", "  ", "a  b", "a b !", "-d ! d", "f -nt d",
		"a b c d", "a = b c", "a = a =", "a ! = b", "a != ! b", "-n a = b", "-e f -a", "-e f d g", "= = = =", "! a b c", "   ", "-n -n -n -n", "a = a ]", "( a = a", "] ! = !",
		"a b c d e", "! a b c d", "! ! a = a", "! ! a = b", "! ! ! -n a", "! ! ! ! a", "! ! ! ! ", "! ! ! ! !", "= = = = =", "a = a = a", "-e f -a -e f", "-n a -o -n b", "! -e f -a a", "( a = a )", "    ", "a = b a = b", "! ! ! ! ! !", "! ! ! a = b")
}

// P14.1, P14.2: as many of one word as there are.
func TestManyWords(t *testing.T) {
	tree := sample(t)
	for word, outcomes := range map[string][]int{
		"!": {fails, holds, fails, holds, fails}, "=": {fails, holds, usage, holds, usage}, "!=": {fails, holds, usage, fails, usage}, "-n": {fails, holds, holds, usage, usage}, "-z": {fails, holds, fails, usage, usage},
		"-e": {fails, holds, holds, usage, usage}, "-f": {fails, holds, fails, usage, usage}, "-d": {fails, holds, fails, usage, usage}, "a": {fails, holds, usage, usage, usage}, "": {fails, fails, usage, usage, usage}, "]": {fails, holds, usage, usage, usage},
	} {
		for count := range api.MaxArgs + 10 {
			outcome := usage
			if count < len(outcomes) {
				outcome = outcomes[count]
			}
			checkTest(t, tree, outcome, slices.Repeat(list(word), count)...)
		}
	}
}
