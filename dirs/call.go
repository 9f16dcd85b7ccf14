package dirs

import (
	"strings"

	"touchstone/api"
	"touchstone/ftree"
	"touchstone/opts"
	"touchstone/path"
	"touchstone/prim"
	"touchstone/walk"
)

// call is a call of a utility: the options that were told, and the file system over which it is run.
type call struct {
	opts.Opts
	fs ftree.FS
}

// makeDir is what mkdir does with an operand.
func (c call) makeDir(operand string) api.Errno {
	if c.Has('p') {
		return c.makeWay(operand)
	}
	place, _, e := walk.Spot(c.fs, operand)
	if e != api.OK {
		return e
	}
	return prim.MakeDir(c.fs, place)
}

// makeWay makes the directories that are missing on the way of a path, and at its end.
func (c call) makeWay(operand string) api.Errno {
	steps := path.Steps(operand)
	for i := range steps {
		// Each path is gone from its beginning, not from the last one's place: its links are counted together.
		if e := c.makeMissing("/" + strings.Join(steps[:i+1], "/")); e != api.OK {
			return e
		}
	}
	return api.OK
}

// makeMissing makes a directory where a path leads to, if nothing stands there.
func (c call) makeMissing(p string) api.Errno {
	place, kind, e := walk.Find(c.fs, p)
	switch {
	case e != api.OK:
		return e
	case kind == api.Absent:
		return prim.MakeDir(c.fs, place)
	case kind != api.Dir:
		return api.ErrKind
	}
	return api.OK
}

// removeDir is what rmdir does with an operand.
func (c call) removeDir(operand string) api.Errno {
	place, _, e := walk.Spot(c.fs, operand)
	if e != api.OK {
		return e
	}
	return prim.RemoveDir(c.fs, place)
}

// touch is what touch does with an operand.
func (c call) touch(operand string) api.Errno {
	place, kind, e := walk.Find(c.fs, operand)
	if e != api.OK {
		return e
	}
	if kind == api.Absent && (path.Dir(operand) || c.isLink(operand)) {
		return api.ErrNone
	}
	return prim.Touch(c.fs, place)
}

// isLink tells whether a path leads to a link.
func (c call) isLink(p string) bool {
	_, kind, _ := walk.Spot(c.fs, p)
	return kind == api.Link
}

// remove is what rm does with an operand.
func (c call) remove(operand string) api.Errno {
	place, kind, e := walk.Spot(c.fs, operand)
	if e == api.OK && kind == api.Absent {
		e = api.ErrNone
	}
	switch {
	case e == api.ErrNone && c.Has('f'):
		return api.OK
	case e != api.OK:
		return e
	case kind != api.Dir:
		return prim.Unlink(c.fs, place)
	case !c.Has('r'):
		return api.ErrKind
	}
	return prim.RemoveAll(c.fs, place)
}
