package path_test

import (
	"slices"
	"strings"
	"testing"
	"unsafe"

	"touchstone/api"
	"touchstone/path"
)

// within tells whether a text's bytes stand in the memory of another one.
func within(text, whole string) bool {
	if text == "" || whole == "" {
		return false
	}
	at, begin := uintptr(unsafe.Pointer(unsafe.StringData(text))), uintptr(unsafe.Pointer(unsafe.StringData(whole)))
	return at >= begin && at < begin+uintptr(len(whole))
}

// R3: an answer's texts are in new memory.
func TestTextsInNewMemory(t *testing.T) {
	for _, s := range list("abcdef", "/abc/def/../ghi//", "a/b/c", "name") {
		whole := strings.Clone(s)
		last, _ := path.Last(whole)
		for _, text := range slices.Concat(path.Steps(whole), path.Clean(whole), list(last)) {
			if within(text, whole) {
				t.Errorf("%q shares memory with %q", text, whole)
			}
		}
	}
	for _, s := range list("", "/", "/name") {
		whole := strings.Clone(s)
		if text := path.Show(list(whole)); within(text, whole) {
			t.Errorf("%q shares memory with %q", text, whole)
		}
	}
}

// R3: an answer's list is the caller's own, its spare room too.
func TestListsInNewMemory(t *testing.T) {
	for _, call := range []func(s string) []string{path.Steps, path.Clean} {
		want := list("a", "b", "c", "d", "e")
		first, second := call("a/b/c/d/e"), call("a/b/c/d/e")
		for i := range first[:cap(first)] {
			first[:cap(first)][i] = "written"
		}
		if third := call("a/b/c/d/e"); !slices.Equal(second, want) || !slices.Equal(third, want) {
			t.Errorf("%q and %q; want %q", second, third, want)
		}
	}
}

// placeWithRoom is a place with names in the room behind its end.
func placeWithRoom(names ...string) []string {
	place := make([]string, 0, len(names)+2)
	place = append(place, names...)
	copy(place[len(place):cap(place)], list("room", "room"))
	return place
}

// R3: places are neither changed nor read behind their ends.
func TestPlacesAreNotReadBehindTheirEnds(t *testing.T) {
	a, b := placeWithRoom("a"), placeWithRoom("a", "room", "room")
	longer := list("a", "room")
	for range 2 {
		if s := path.Show(a); s != "/a" {
			t.Errorf("Show = %q", s)
		}
		checkUnder(t, a, b, true, false)
		checkUnder(t, a, longer, true, false)
		checkUnder(t, a[:0], a, true, false)
		checkRising(t, a[:0], a, longer, b)
	}
	if !slices.Equal(a[:3], list("a", "room", "room")) || !slices.Equal(b[:5], list("a", "room", "room", "room", "room")) {
		t.Errorf("what was handed in: %q, %q", a[:3], b[:5])
	}
}

// R2: what is answered hangs on the arguments alone, whatever was asked before.
func TestSameAnswersAgain(t *testing.T) {
	s := "/a//./b/../c"
	for range 3 {
		checkRows(t, []row{{s, list("a", "b", "..", "c"), false, "c", list("a", "c")}, {"", nil, false, "", nil}})
		checkPaths(t, api.OK, s)
	}
}
