package dirs

import (
	"strings"

	"touchstone/api"
	"touchstone/ftree"
	"touchstone/opts"
	"touchstone/path"
)

// The codes by which a utility ends.
const (
	isDone    = 0
	isRefused = 1
	isUsage   = 2
)

// utility is what there is to know of a utility.
type utility struct {
	options string
	alone   byte // the option with which it needs no operands; 0, which is never told, if there is none
	does    func(c call, operand string) api.Errno
}

// utilities are all of them, by their names.
func utilities() map[string]utility {
	return map[string]utility{
		"mkdir": {options: "p", does: call.makeDir},
		"rmdir": {does: call.removeDir},
		"touch": {does: call.touch},
		"rm":    {options: "fr", alone: 'f', does: call.remove},
	}
}

// run runs a utility with the words behind its name: its code, and what it complains of.
func (u utility) run(f ftree.FS, name string, words []string) (int, string) {
	told, e := opts.Parse(u.options, words, 0, len(words))
	c := call{Opts: told, fs: f}
	if e != api.OK || len(c.Operands) == 0 && !c.Has(u.alone) {
		return isUsage, name + ": usage\n"
	}
	var lines strings.Builder
	for _, operand := range c.Operands {
		if e := u.doesWith(c, operand); e != api.OK {
			lines.WriteString(name + ": " + operand + ": " + Reason(e) + "\n")
		}
	}
	if lines.Len() > 0 {
		return isRefused, lines.String()
	}
	return isDone, ""
}

// doesWith does what the utility does with an operand, if that is a path.
func (u utility) doesWith(c call, operand string) api.Errno {
	if e := path.Check(operand); e != api.OK {
		return e
	}
	return u.does(c, operand)
}
