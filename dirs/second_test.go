package dirs_test

import (
	"strings"

	"touchstone/api"
)

// isName tells whether a step is a name.
func isName(step string) bool {
	return step != "" && step != "." && step != ".." && len(step) <= api.MaxName && !strings.ContainsAny(step, "/\n\x00")
}

// wrongPath is what is wrong with a path, by its steps.
func wrongPath(p string) api.Errno {
	if p == "" || strings.Contains(p, "\x00") {
		return api.ErrForm
	}
	if len(p) > api.MaxText {
		return api.ErrTooLarge
	}
	for _, step := range strings.Split(p, "/") {
		if !isName(step) && step != "" && step != "." && step != ".." {
			return api.ErrForm
		}
	}
	return api.OK
}

// hasSteps tells whether a path goes anywhere.
func hasSteps(p string) bool { return strings.Trim(p, "/.") != "" || strings.Contains(p, "..") }

// leads goes a path by texts: what is left of it is a text, ahead of which the text of a link that is followed is put.
// So what stands behind a last name says whether a directory is asked for, the path's own end or a link's.
func (f flat) leads(p string, follow bool) (at []string, kind uint8, e api.Errno) {
	links := 0
	for left := p; ; {
		left = strings.TrimLeft(left, "/")
		if left == "" {
			return at, api.Dir, api.OK
		}
		step := left[:strings.IndexByte(left+"/", '/')]
		left = left[len(step):]
		if step == "." {
			continue
		}
		if step == ".." {
			at = at[:max(0, len(at)-1)]
			continue
		}
		here := append(at[:len(at):len(at)], step)
		s, last, asked := f[key(here)], !hasSteps(left), left != ""
		switch {
		case last && (s.kind == api.Absent || !asked && s.kind != api.Dir && (s.kind != api.Link || !follow)):
			return here, s.kind, api.OK
		case s.kind == api.Absent:
			return nil, 0, api.ErrNone
		case s.kind == api.File:
			return nil, 0, api.ErrKind
		case s.kind == api.Dir:
			at = here
			continue
		}
		if links++; links > api.MaxLinks {
			return nil, 0, api.ErrLoop
		}
		if s.text[0] == '/' {
			at = nil
		}
		left = s.text + left
	}
}

// put has a node stand at a place where nothing stands, if its last name may be.
func (f flat) put(at []string, kind uint8) api.Errno {
	if !isName(at[len(at)-1]) {
		return api.ErrNone
	}
	f[key(at)] = spot{kind: kind}
	return api.OK
}

// call is a utility's call without its operands: its name, and the options that are told.
type call struct{ name, set string }

func (c call) has(option string) bool { return strings.Contains(c.set, option) }

// do is what a call does with an operand, and what it is refused by.
func (f flat) do(c call, operand string) api.Errno {
	if e := wrongPath(operand); e != api.OK {
		return e
	}
	at, kind, e := f.leads(operand, c.name == "touch")
	switch {
	case c.name == "mkdir" && c.has("p"):
		return f.makeWay(operand)
	case e == api.ErrNone && c.name == "rm" && c.has("f"):
		return api.OK
	case e != api.OK:
		return e
	}
	switch c.name {
	case "mkdir":
		if kind != api.Absent {
			return api.ErrTwice
		}
		return f.put(at, api.Dir)
	case "touch":
		return f.touch(operand, at, kind)
	}
	return f.remove(c, at, kind)
}

// makeWay makes what is missing on the way of a path.
func (f flat) makeWay(operand string) api.Errno {
	way := ""
	for _, step := range strings.Split(operand, "/") {
		if step == "" || step == "." {
			continue
		}
		way += "/" + step
		at, kind, e := f.leads(way, true)
		if e == api.OK && kind == api.File {
			e = api.ErrKind
		}
		if e == api.OK && kind == api.Absent {
			e = f.put(at, api.Dir)
		}
		if e != api.OK {
			return e
		}
	}
	return api.OK
}

// touch makes a file where nothing stands, if no directory is asked for, and the last name was no link.
func (f flat) touch(operand string, at []string, kind uint8) api.Errno {
	if kind != api.Absent {
		return api.OK
	}
	last := operand[strings.LastIndexByte(operand, '/')+1:]
	_, itself, _ := f.leads(operand, false)
	if last == "" || last == "." || last == ".." || itself == api.Link {
		return api.ErrNone
	}
	return f.put(at, api.File)
}

// remove is what rmdir and rm do where the way was gone.
func (f flat) remove(c call, at []string, kind uint8) api.Errno {
	isDir, one := kind == api.Dir, c.name == "rmdir"
	switch {
	case kind == api.Absent && c.has("f"):
		return api.OK
	case kind == api.Absent:
		return api.ErrNone
	case one != isDir && !(isDir && c.has("r")):
		return api.ErrKind
	case isDir && (len(at) == 0 || one && len(f.below(key(at))) > 0):
		return api.ErrBusy
	}
	f.del(key(at))
	return api.OK
}

// run is what a call of several operands comes to.
func (f flat) run(c call, operands []string) answer {
	words := map[api.Errno]string{
		api.ErrNone: "not there", api.ErrTwice: "there already", api.ErrKind: "wrong kind", api.ErrBusy: "not empty",
		api.ErrLoop: "too many links", api.ErrTooLarge: "too large", api.ErrForm: "bad name",
	}
	if len(operands) == 0 && !c.has("f") {
		return usageOf(c.name)
	}
	a := done
	for _, operand := range operands {
		if e := f.do(c, operand); e != api.OK {
			a.code, a.err = 1, a.err+refusal(c.name, operand, words[e])
		}
	}
	return a
}
