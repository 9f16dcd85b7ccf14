package moves

import (
	"touchstone/api"
	"touchstone/path"
	"touchstone/walk"
)

// goal is where the goal of a call leads to.
type goal struct {
	place []string
	isDir bool // a directory was found: sources go into it
}

// placeOf is the place to which a source goes.
func (g goal) placeOf(source string) ([]string, api.Errno) {
	if !g.isDir {
		return g.place, api.OK
	}
	name, ok := path.Last(source)
	if !ok {
		return nil, api.ErrForm
	}
	// Each source has memory of its own: what the file system was handed of another one is not written over.
	return append(g.place[:len(g.place):len(g.place)], name), api.OK
}

// lookAtGoal looks at the goal of one source, or of several.
func (u utility) lookAtGoal(c call, p string, several bool) (goal, api.Errno) {
	if e := path.Check(p); e != api.OK {
		return goal{}, e
	}
	found, kind, e := walk.Find(c.fs, p)
	switch {
	case e != api.OK:
		return goal{}, e
	case kind == api.Dir:
		return goal{place: found, isDir: true}, api.OK
	case kind == api.Absent && (several || path.Dir(p)):
		return goal{}, api.ErrNone
	case several:
		return goal{}, api.ErrKind
	}
	place, e := u.leads(c, p, found, kind)
	return goal{place: place}, e
}

// toSpot is where the goal of mv and ln leads to: where it is a link, that is what gives way.
func toSpot(c call, p string, _ []string, _ uint8) ([]string, api.Errno) {
	place, _, e := walk.Spot(c.fs, p)
	return place, e
}

// toFound is where the goal of cp leads to: a link is followed, if it leads to something.
func toFound(c call, p string, found []string, kind uint8) ([]string, api.Errno) {
	if kind != api.Absent {
		return found, api.OK
	}
	if _, itself, _ := walk.Spot(c.fs, p); itself == api.Link {
		return nil, api.ErrNone
	}
	return found, api.OK
}
