package moves

import (
	"math"
	"strings"

	"touchstone/api"
	"touchstone/ftree"
	"touchstone/opts"
)

// The codes by which a utility ends.
const (
	isDone    = 0
	isRefused = 1
	isUsage   = 2
)

// leastOperands are a source and the goal.
const leastOperands = 2

// call is a call of a utility: the options that were told, and the file system over which it is run.
type call struct {
	opts.Opts
	fs ftree.FS
}

// utility is what there is to know of a utility, and what it does.
type utility struct {
	options string // the letters that it knows
	must    string // the one that must be told; the empty text, which always is, if there is none
	// leads is where a goal leads to, if no directory was found at it, but what is of that Kind.
	leads func(c call, goal string, found []string, kind uint8) ([]string, api.Errno)
	// looks looks at a source, and is what is to be done with it then.
	looks func(c call, source string) (doing, api.Errno)
}

// doing is what is done with a source that was looked at, as soon as it is known to which place it goes.
type doing func(to []string) api.Errno

// utilities are all of them, by their names.
func utilities() map[string]utility {
	return map[string]utility{
		"mv": {options: "f", leads: toSpot, looks: renames},
		"cp": {options: "Rfr", leads: toFound, looks: copies},
		"ln": {options: "fs", must: "s", leads: toSpot, looks: links},
	}
}

// run runs a utility with the words behind its name: its code, and what it complains of.
func (u utility) run(f ftree.FS, name string, words []string) (int, string) {
	told, e := opts.Parse(u.options, words, leastOperands, math.MaxInt)
	if e != api.OK || !strings.Contains(told.Set, u.must) {
		return isUsage, name + ": usage\n"
	}
	c := call{Opts: told, fs: f}
	last := len(c.Operands) - 1
	sources, end := c.Operands[:last], c.Operands[last]
	g, e := u.lookAtGoal(c, end, len(sources) > 1)
	if e != api.OK {
		return isRefused, refusal(name, end, e)
	}
	var lines strings.Builder
	for _, source := range sources {
		if e := u.send(c, source, g); e != api.OK {
			lines.WriteString(refusal(name, source, e))
		}
	}
	if lines.Len() > 0 {
		return isRefused, lines.String()
	}
	return isDone, ""
}

// refusal is the line that tells why an operand is refused.
func refusal(name, operand string, e api.Errno) string {
	return name + ": " + operand + ": " + Why(e) + "\n"
}

// send does with a source what the utility does.
func (u utility) send(c call, source string, g goal) api.Errno {
	do, e := u.looks(c, source)
	if e != api.OK {
		return e
	}
	to, e := g.placeOf(source)
	if e != api.OK {
		return e
	}
	return do(to)
}
