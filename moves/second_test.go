package moves_test

import (
	"strings"

	"touchstone/api"
	"touchstone/ftree"
	"touchstone/path"
	"touchstone/walk"
)

// doubt is something that may be wrong, and by what it is refused then.
type doubt struct {
	holds bool
	e     api.Errno
}

// firstOf is what the first doubt that holds is refused by.
func firstOf(doubts ...doubt) api.Errno {
	for _, d := range doubts {
		if d.holds {
			return d.e
		}
	}
	return api.OK
}

// wrongWith is what is wrong with sending what stands at a key to another one, by chapter 10.
func (f flat) wrongWith(c call, from, to string) api.Errno {
	isDir, there := f[from] == "/", f[to]
	intoItself, atBoth := isUnder(from, to), from == to
	switch c.name {
	case "mv":
		return firstOf(doubt{atBoth, api.ErrTwice}, doubt{from == "", api.ErrBusy}, doubt{intoItself, api.ErrInto}, doubt{there != "" && isDir != (there == "/"), api.ErrKind}, doubt{there == "/" && len(f.part(to)) > 1, api.ErrBusy})
	case "cp":
		return firstOf(doubt{atBoth, api.ErrTwice}, doubt{isDir && !c.has("r"), api.ErrKind}, doubt{intoItself, api.ErrInto}, doubt{there != "" && isDir, api.ErrTwice}, doubt{there != "" && there[0] != '=', api.ErrKind})
	}
	return firstOf(doubt{there == "/" && c.has("f"), api.ErrKind}, doubt{there != "" && !c.has("f"), api.ErrTwice})
}

// aim is the key to which the goal of one source leads in a tree, and whether a directory was found.
func aim(tree *ftree.Tree, c call, goal string) (to string, isDir bool, e api.Errno) {
	if e := path.Check(goal); e != api.OK {
		return "", false, e
	}
	found, kind, e := walk.Find(tree, goal)
	spot, itself, _ := walk.Spot(tree, goal)
	switch {
	case e != api.OK:
		return "", false, e
	case kind == api.Absent && (path.Dir(goal) || c.name == "cp" && itself == api.Link):
		return "", false, api.ErrNone
	case kind == api.Dir || c.name == "cp":
		return key(found), kind == api.Dir, api.OK
	}
	return key(spot), false, api.OK
}

// lookAt is the key at which a source stands, if it is one that may go.
func lookAt(tree *ftree.Tree, c call, source string) (from string, e api.Errno) {
	if c.name == "ln" {
		isText := source != "" && len(source) <= api.MaxText && !strings.Contains(source, "\x00")
		return "", firstOf(doubt{!isText, api.ErrForm})
	}
	if e := path.Check(source); e != api.OK {
		return "", e
	}
	walks := walk.Spot
	if c.name == "cp" && !c.has("r") {
		walks = walk.Find
	}
	place, kind, e := walks(tree, source)
	return key(place), firstOf(doubt{e != api.OK, e}, doubt{kind == api.Absent, api.ErrNone})
}

// trip is what comes of a call of one source: from which key to which one, whether it goes into a directory, and by what
// it is refused, the goal or the source.
type trip struct {
	from, to  string
	isInto    bool
	atGoal, e api.Errno
}

// tripOf is the second way to a call of one source over a tree.
func tripOf(tree *ftree.Tree, f flat, c call, source, goal string) trip {
	to, isInto, e := aim(tree, c, goal)
	if e != api.OK {
		return trip{atGoal: e}
	}
	from, e := lookAt(tree, c, source)
	if e != api.OK {
		return trip{e: e}
	}
	if isInto {
		last, ok := path.Last(source)
		if !ok {
			return trip{e: api.ErrForm}
		}
		to += "/" + last
	}
	return trip{from: from, to: to, isInto: isInto, e: f.wrongWith(c, from, to)}
}

// wordOf is the reason's word.
func wordOf(e api.Errno) string {
	return map[api.Errno]string{
		api.ErrNone: "not there", api.ErrTwice: "there already", api.ErrKind: "wrong kind", api.ErrBusy: "not empty",
		api.ErrInto: "into itself", api.ErrLoop: "too many links", api.ErrTooLarge: "too large", api.ErrForm: "bad name",
	}[e]
}

// answer is what a call of one source answers.
func (r trip) answer(c call, source, goal string) answer {
	switch {
	case r.atGoal != api.OK:
		return refusedBy(c.name, goal, wordOf(r.atGoal))
	case r.e != api.OK:
		return refusedBy(c.name, source, wordOf(r.e))
	}
	return done
}
