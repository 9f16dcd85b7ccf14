package moves

import (
	"touchstone/api"
	"touchstone/ftree"
	"touchstone/path"
	"touchstone/prim"
	"touchstone/walk"
)

// walking is a way to go a path: walk.Find or walk.Spot.
type walking func(fs ftree.FS, p string) ([]string, uint8, api.Errno)

// stands is the place of a path at which something stands.
func (c call) stands(p string, walks walking) ([]string, api.Errno) {
	if e := path.Check(p); e != api.OK {
		return nil, e
	}
	place, kind, e := walks(c.fs, p)
	if e == api.OK && kind == api.Absent {
		return nil, api.ErrNone
	}
	return place, e
}

// renames looks at a source of mv.
func renames(c call, source string) (doing, api.Errno) {
	from, e := c.stands(source, walk.Spot)
	if e != api.OK {
		return nil, e
	}
	return func(to []string) api.Errno { return prim.Rename(c.fs, from, to) }, api.OK
}

// copies looks at a source of cp.
func copies(c call, source string) (doing, api.Errno) {
	deep, walks := c.Has('r') || c.Has('R'), walking(walk.Find)
	if deep {
		walks = walk.Spot
	}
	from, e := c.stands(source, walks)
	if e != api.OK {
		return nil, e
	}
	return func(to []string) api.Errno { return prim.Copy(c.fs, from, to, deep) }, api.OK
}

// links looks at a source of ln, which is the text of the link that is made.
func links(c call, source string) (doing, api.Errno) {
	if !ftree.Well(api.Node{Kind: api.Link, Text: source}) {
		return nil, api.ErrForm
	}
	return func(to []string) api.Errno {
		if c.Has('f') && c.fs.Kind(to) != api.Absent {
			if e := prim.Unlink(c.fs, to); e != api.OK {
				return e
			}
		}
		return prim.MakeLink(c.fs, to, source)
	}, api.OK
}
