package prim

import (
	"touchstone/api"
	"touchstone/ftree"
	"touchstone/path"
)

// atPlaces does something, if there is a file system, and all the places may be taken.
func atPlaces(f ftree.FS, do func() api.Errno, places ...[]string) api.Errno {
	if isNone(f) {
		return api.ErrNil
	}
	for _, place := range places {
		if !mayBeTaken(f, place) {
			return api.ErrNone
		}
	}
	return do()
}

// isNone tells whether there is no file system, or a Tree that is nil. It asks nothing: a call may ask no more than its
// answer needs.
func isNone(f ftree.FS) bool {
	var none *ftree.Tree
	return f == nil || f == ftree.FS(none)
}

func isRoot(place []string) bool { return len(place) == 0 }

// mayBeTaken tells whether a place may be taken.
func mayBeTaken(f ftree.FS, place []string) bool {
	if isRoot(place) {
		return true
	}
	last := len(place) - 1
	// Without room behind it the parent's place can't run into the last name, whatever the file system does with it.
	return path.Name(place[last]) && f.Kind(place[:last:last]) == api.Dir
}

// makeNode puts a node to a place where nothing stands.
func makeNode(f ftree.FS, place []string, n api.Node) api.Errno {
	return atPlaces(f, func() api.Errno {
		if !ftree.Well(n) {
			return api.ErrForm
		}
		if f.Kind(place) != api.Absent {
			return api.ErrTwice
		}
		f.Put(place, n)
		return api.OK
	}, place)
}

// remove takes away what stands at a place, if nothing is wrong with it.
func remove(f ftree.FS, place []string, wrong func(kind uint8) api.Errno) api.Errno {
	return atPlaces(f, func() api.Errno {
		kind := f.Kind(place)
		if kind == api.Absent {
			return api.ErrNone
		}
		if e := wrong(kind); e != api.OK {
			return e
		}
		f.Del(place)
		return api.OK
	}, place)
}

// givesWay tells what is wrong with a place to which a node of that Kind is moved.
func givesWay(f ftree.FS, to []string, kind uint8) api.Errno {
	there := f.Kind(to)
	switch {
	case there == api.Absent:
		return api.OK
	case (there == api.Dir) != (kind == api.Dir):
		return api.ErrKind
	case there == api.Dir && !f.Empty(to):
		return api.ErrBusy
	}
	return api.OK
}

// isCopiedOver tells what is wrong with a place to which a node of that Kind is copied.
func isCopiedOver(f ftree.FS, to []string, kind uint8) api.Errno {
	there := f.Kind(to)
	switch {
	case there == api.Absent:
		return api.OK
	case kind == api.Dir:
		return api.ErrTwice
	case there != api.File:
		return api.ErrKind
	}
	return api.OK
}
