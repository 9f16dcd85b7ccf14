package path_test

import (
	"math/rand"
	"regexp"
	"slices"
	"strings"
	"testing"

	"touchstone/api"
	"touchstone/path"
)

// textsOf are all texts of at most so many of these pieces.
func textsOf(most int, pieces ...string) []string {
	all := list("")
	for from := 0; most > 0; most-- {
		end := len(all)
		for _, text := range all[from:end] {
			for _, piece := range pieces {
				all = append(all, text+piece)
			}
		}
		from = end
	}
	return all
}

// placesOf are all places of at most so many of these names.
func placesOf(most int, names ...string) [][]string {
	all := [][]string{nil}
	for from := 0; most > 0; most-- {
		end := len(all)
		for _, place := range all[from:end] {
			for _, name := range names {
				all = append(all, append(slices.Clone(place), name))
			}
		}
		from = end
	}
	return all
}

// The second way to what the calls answer: patterns.
var (
	namePattern = regexp.MustCompile(`^[^/\n\x00]{1,64}$`)
	stepPattern = regexp.MustCompile(`[^/]+`)
	dirPattern  = regexp.MustCompile(`(?s)^(.*/)?\.\.?$|/$`)
	lastPattern = regexp.MustCompile(`(?s)^(?:.*/)?([^/]+)/*$`)
)

func nameBySecondWay(s string) bool {
	return namePattern.MatchString(s) && s != "." && s != ".."
}

func stepsBySecondWay(s string) []string {
	return slices.DeleteFunc(stepPattern.FindAllString(s, -1), func(step string) bool { return step == "." })
}

func lastBySecondWay(s string) string {
	if found := lastPattern.FindStringSubmatch(s); found != nil && nameBySecondWay(found[1]) {
		return found[1]
	}
	return ""
}

// cleanBySecondWay takes two dots away, with the step ahead of them, as long as there are some.
func cleanBySecondWay(s string) []string {
	steps := stepsBySecondWay(s)
	for {
		at := slices.Index(steps, "..")
		if at < 0 {
			return steps
		}
		steps = slices.Delete(steps, max(at-1, 0), at+1)
	}
}

func checkBySecondWay(s string) api.Errno {
	if s == "" || strings.ContainsRune(s, 0) {
		return api.ErrForm
	}
	for _, step := range stepsBySecondWay(s) {
		if step != ".." && !nameBySecondWay(step) {
			return api.ErrForm
		}
	}
	return api.OK
}

// P6.1: every short text, against the second way.
func TestEveryShortText(t *testing.T) {
	texts := textsOf(9, "a", ".", "/")
	texts = append(texts, textsOf(6, "a", ".", "/", "\n", "\x00", "\xff")...)
	texts = append(texts, textsOf(5, "..", "/", "a", ".", "b/", "/../", "/./")...)
	for _, s := range texts {
		checkRows(t, []row{{s, stepsBySecondWay(s), dirPattern.MatchString(s), lastBySecondWay(s), cleanBySecondWay(s)}})
		checkPaths(t, checkBySecondWay(s), s)
		if got := path.Name(s); got != nameBySecondWay(s) {
			t.Errorf("Name(%q) = %v", s, got)
		}
		if t.Failed() {
			return
		}
	}
}

// P6.3: Clean of Show of a place of names is the place.
func TestCleanOfShow(t *testing.T) {
	places := placesOf(4, "a", "ab", "...", ".a", " ", "\xff", longestName)
	places = append(places, slices.Repeat(list("d"), api.MaxDepth), slices.Repeat(list("d"), 10*api.MaxDepth))
	for _, place := range places {
		if got := path.Clean(path.Show(place)); !slices.Equal(got, place) {
			t.Fatalf("Clean(Show(%.90q)) = %.90q", place, got)
		}
		if last, ok := path.Last(path.Show(place)); ok != (len(place) > 0) || ok && last != place[len(place)-1] {
			t.Fatalf("Last(Show(%.90q)) = %.90q, %v", place, last, ok)
		}
	}
}

// otherPath are the same steps, with other / and dots of one between them.
func otherPath(random *rand.Rand, steps []string) string {
	gaps := list("/", "//", "/./", "/././", "///.//")
	text := list("", "/", "./", "/./", "//.//")[random.Intn(5)]
	for i, step := range steps {
		if i > 0 {
			text += gaps[random.Intn(len(gaps))]
		}
		text += step
	}
	return text + list("", "/", "/.", "//./")[random.Intn(4)]
}

// P6.3: Clean of a path is that of its steps joined by /, and hangs neither on further / nor on dots of one.
func TestCleanOfTheSameSteps(t *testing.T) {
	random := rand.New(rand.NewSource(6))
	for _, steps := range placesOf(5, "a", "b", "..", "..a", "a\n") {
		joined := strings.Join(steps, "/")
		want := path.Clean(joined)
		for range 5 {
			other := otherPath(random, steps)
			if got := path.Steps(other); !slices.Equal(got, steps) {
				t.Fatalf("Steps(%q) = %q; want %q", other, got, steps)
			}
			if got := path.Clean(other); !slices.Equal(got, want) {
				t.Fatalf("Clean(%q) = %q; want %q, as of %q", other, got, want, joined)
			}
		}
		if slices.Contains(want, "..") || !slices.Equal(path.Clean(path.Show(want)), want) {
			t.Fatalf("Clean(%q) = %q", joined, want)
		}
	}
}

// inRow are places, many of which begin by others, or by names that begin others.
func inRow() [][]string {
	return append(placesOf(3, "a", "ab", "b", "\x80"), placesOf(2, "a-", "a ", "\xff", "A", longestName)...)
}

// P6.4: of two places one is less, or they are the same; and what stands below a place is behind it.
func TestTwoPlaces(t *testing.T) {
	places := inRow()
	for _, a := range places {
		for _, b := range places {
			same := slices.Equal(a, b)
			if less, more := path.Less(a, b), path.Less(b, a); less && more || same == (less || more) {
				t.Fatalf("Less(%.90q, %.90q) = %v, and the other way about %v", a, b, less, more)
			}
			if path.Under(a, b) && path.Under(b, a) != same {
				t.Fatalf("Under of %.90q and %.90q", a, b)
			}
			if path.Under(a, b) && !same && !path.Less(a, b) {
				t.Fatalf("%.90q stands below %.90q, and ahead of it", b, a)
			}
		}
	}
}

// P6.4: Under goes on, and so does Less.
func TestThreePlaces(t *testing.T) {
	places := placesOf(3, "a", "ab", "\x80")
	places = append(places, placesOf(1, "a-", "A", "\xff")...)
	for _, a := range places {
		for _, b := range places {
			under, less := path.Under(a, b), path.Less(a, b)
			for _, c := range places {
				if under && path.Under(b, c) && !path.Under(a, c) {
					t.Fatalf("%q is under %q, that under %q", c, b, a)
				}
				if less && path.Less(b, c) && !path.Less(a, c) {
					t.Fatalf("%q is less than %q, that than %q", a, b, c)
				}
			}
		}
	}
}

// P6.2, P6.4: a place is under another one just where it is that one with names behind it.
func TestUnderWithNamesBehind(t *testing.T) {
	places := inRow()
	behind := placesOf(2, "a", "ab")
	for _, a := range places {
		for _, more := range behind {
			checkUnder(t, a, slices.Concat(a, more), true, len(more) == 0)
		}
	}
	for _, a := range places {
		for _, b := range places {
			want := len(a) <= len(b) && strings.HasPrefix(path.Show(b)+"/", strings.TrimSuffix(path.Show(a), "/")+"/")
			if got := path.Under(a, b); got != want {
				t.Fatalf("Under(%.90q, %.90q) = %v", a, b, got)
			}
		}
	}
}
