package probe

import (
	"touchstone/api"
	"touchstone/ftree"
	"touchstone/path"
	"touchstone/walk"
)

// mostWords is how many words a test has at most: with more of them it is usage.
const mostWords = 4

// holdsIn tells whether a test holds in a file system, and whether it is one.
func holdsIn(f ftree.FS, words []string) (holds, isTest bool) {
	switch len(words) {
	case 0:
		return false, true
	case 1:
		return words[0] != "", true
	case 2:
		if asks, known := questions(f)[words[0]]; known {
			return asks(words[1]), true
		}
	case 3:
		// Ahead of a ! in front, which is a word like any other one then.
		if compares, known := comparisons()[words[1]]; known {
			return compares(words[0], words[2]), true
		}
	}
	if len(words) > mostWords || words[0] != "!" {
		return false, false
	}
	holds, isTest = holdsIn(f, words[1:])
	return isTest && !holds, isTest
}

// questions are what is asked of a word by the one ahead of it.
func questions(f ftree.FS) map[string]func(word string) bool {
	found := func(p string) uint8 { return kindBy(walk.Find, f, p) }
	isLink := func(p string) bool { return kindBy(walk.Spot, f, p) == api.Link }
	return map[string]func(word string) bool{
		"-n": func(s string) bool { return s != "" },
		"-z": func(s string) bool { return s == "" },
		"-e": func(p string) bool { return found(p) != api.Absent },
		"-f": func(p string) bool { return found(p) == api.File },
		"-d": func(p string) bool { return found(p) == api.Dir },
		"-L": isLink,
		"-h": isLink,
	}
}

// comparisons are what is asked of two words by the one between them.
func comparisons() map[string]func(a, b string) bool {
	return map[string]func(a, b string) bool{
		"=":  func(a, b string) bool { return a == b },
		"!=": func(a, b string) bool { return a != b },
	}
}

// kindBy is the Kind to which a path leads; of one that is refused there is nothing.
func kindBy(goes func(f ftree.FS, p string) ([]string, uint8, api.Errno), f ftree.FS, p string) uint8 {
	if path.Check(p) != api.OK {
		return api.Absent
	}
	_, kind, e := goes(f, p)
	if e != api.OK {
		return api.Absent
	}
	return kind
}
