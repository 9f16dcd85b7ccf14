package probe_test

import (
	"math/rand"
	"regexp"
	"strings"
	"testing"

	"touchstone/api"
)

// shapes are the tests that there are, by the letters of their words: the ! that turn the test about, as few as can be,
// and what is asked.
var shapes = regexp.MustCompile(`^(!*?)(|.|[nzefdLh].|.[=#].)$`)

// letterOf is a word's letter: . of one that asks nothing.
func letterOf(word string) string {
	switch word {
	case "!", "=":
		return word
	case "!=":
		return "#"
	case "-n", "-z", "-e", "-f", "-d", "-L", "-h":
		return word[1:]
	}
	return "."
}

// secondly is the outcome of a test by its shape; of each path that leads somewhere the letters are told that hold of it.
func secondly(paths map[string]string, words []string) int {
	shape := ""
	for _, word := range words {
		shape += letterOf(word)
	}
	m := shapes.FindStringSubmatch(shape)
	if m == nil || len(words) > 4 {
		return usage
	}
	turns, asked := len(m[1]), m[2]
	words = words[turns:]
	does := false
	switch len(asked) {
	case 1:
		does = words[0] != ""
	case 2:
		does = strings.Contains(paths[words[1]], asked[:1])
		if asked[0] == 'n' || asked[0] == 'z' {
			does = (words[1] == "") == (asked[0] == 'z')
		}
	case 3:
		does = (words[0] == words[2]) == (asked[1] == '=')
	}
	if does == (turns%2 == 0) {
		return holds
	}
	return fails
}

// words are those of the lists.
func words() []string {
	return list("", "!", "=", "!=", "-n", "-z", "-e", "-f", "-d", "-L", "-h", "-x", "f", "to-f", "x", "/", "]")
}

// letters are what holds of each of the words as a path over the sample.
func letters() map[string]string {
	return map[string]string{"!": "ef", "=": "ef", "-e": "ef", "-f": "ed", "]": "ed", "f": "ef", "to-f": "efLh", "/": "ed"}
}

// P14.1, P14.2: all lists of at most four words of each sort, against the second way.
func TestAllShortTests(t *testing.T) {
	tree := sample(t)
	counts := map[int]int{}
	before := [][]string{nil}
	for range 4 {
		var longer [][]string
		for _, l := range before {
			for _, word := range words() {
				longer = append(longer, append(l[:len(l):len(l)], word))
			}
		}
		for _, l := range longer {
			want := secondly(letters(), l)
			counts[want]++
			if got := run(looked{tree, t}, append(list("test"), l...)...); got.code != want {
				t.Fatalf("test %q: %s; want %d", l, got.text(), want)
			}
			if len(l) < 4 {
				checkTest(t, tree, want, l...)
			}
		}
		before = longer
	}
	if counts[holds] < 500 || counts[fails] < 500 || counts[usage] < 500 {
		t.Errorf("outcomes: %v", counts)
	}
}

// P14.1, P14.2: some lists of more words, against the second way; the most are of !.
func TestSomeLongTests(t *testing.T) {
	random := rand.New(rand.NewSource(14))
	tree := sample(t)
	for range 3000 {
		var l []string
		for range random.Intn(9) {
			if random.Intn(2) == 0 {
				l = append(l, "!")
			} else {
				l = append(l, words()[random.Intn(len(words()))])
			}
		}
		checkTest(t, tree, secondly(letters(), l), l...)
	}
}

// P14.1: whatever the words are, a call ends, and comes to what its name says.
func TestAnyWords(t *testing.T) {
	random := rand.New(rand.NewSource(141))
	tree := treeOf(t, "a=", "b/", "b/a>..", "l>b", "e=", "-=", "n>l")
	for range 30000 {
		words := list(append(names(), "tes", "")[random.Intn(8)])
		for range random.Intn(7) {
			bytes := make([]byte, random.Intn(4))
			for i := range bytes {
				bytes[i] = "abl!=-nzefdLh]./\x00\n\xff"[random.Intn(19)]
			}
			words = append(words, string(bytes))
		}
		got := run(looked{tree, t}, words...)
		name := words[0]
		switch {
		case got.is != (name != "" && name != "tes"), !got.is && got != (answer{}), (got.out != "") != (name == "echo"), got.code < 0, got.code > 2:
			t.Fatalf("%q: %s", words, got.text())
		case (got.code == 2) != (got.err != ""), got.code == 2 && (got != usageOf(name) || name != "test" && name != "["), got.code == 1 && (name == "true" || name == ":" || name == "echo"), got.code == 0 && name == "false":
			t.Fatalf("%q: %s", words, got.text())
		}
	}
	if root := tree.Root(); root.Kind != api.Dir || len(root.Names) != 6 {
		t.Errorf("the tree is %v", root)
	}
}
