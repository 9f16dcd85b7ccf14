package shell

import (
	"strings"

	"touchstone/api"
	"touchstone/expand"
	"touchstone/ftree"
)

// run is a run of a script.
type run struct {
	fs           ftree.FS
	vars         expand.Vars // the status is one of them
	endsByFailed bool        // it ends by what fails
	out, err     strings.Builder
	left         int // the steps that are left
	doings       [api.For + 1]doing
}

// doing does a command, which is looked at or not.
type doing func(r *run, c api.Cmd, looked bool)

// doings are what each Kind does.
func doings() [api.For + 1]doing {
	return [...]doing{
		api.None:   (*run).doNone,
		api.Simple: (*run).doSimple,
		api.Not:    (*run).doNot,
		api.And:    (*run).doAnd,
		api.Or:     (*run).doOr,
		api.Seq:    (*run).doSeq,
		api.If:     (*run).doIf,
		api.While:  (*run).doWhile,
		api.Until:  (*run).doUntil,
		api.For:    (*run).doFor,
	}
}

// ended is what is thrown where a run ends by a code, or (it did not end) by an error.
type ended struct {
	code int
	e    api.Errno
}

// end runs the script's command: the code by which the run ends, or why it did not end.
func (r *run) end(c api.Cmd) (code int, e api.Errno) {
	defer func() {
		thrown := recover()
		if thrown == nil {
			return
		}
		by, ok := thrown.(ended)
		if !ok {
			panic(thrown)
		}
		code, e = by.code, by.e
	}()
	r.do(c, true)
	return r.vars.Status, api.OK
}

// do runs a command, looked at or not.
func (r *run) do(c api.Cmd, looked bool) { r.doings[c.Kind](r, c, looked) }

// step takes a step, if one is left.
func (r *run) step() {
	if r.left == 0 {
		panic(ended{e: api.ErrFuel})
	}
	r.left--
}

// write puts texts behind Out and Err.
func (r *run) write(out, err string) {
	r.out.WriteString(out)
	r.err.WriteString(err)
	if r.out.Len()+r.err.Len() > api.MaxOut {
		panic(ended{e: api.ErrTooLarge})
	}
}

// succeeded tells whether the status is 0.
func (r *run) succeeded() bool { return r.vars.Status == 0 }

// turn turns the status about.
func (r *run) turn() {
	if r.succeeded() {
		r.vars.Status = 1
	} else {
		r.vars.Status = 0
	}
}

// gets gives a value to a variable; it tells whether that was not refused. Where it was not, the status stays.
func (r *run) gets(name, value string) bool {
	vars, e := expand.Set(r.vars, name, value)
	if e != api.OK {
		// A command that may be has names alone that a value can be given to: it is the value that was refused.
		r.write("", name+": too large\n")
		r.vars.Status = 1
		return false
	}
	r.vars = vars
	return true
}

// fieldsOf are the fields of words.
func (r *run) fieldsOf(words []api.Word) []string {
	var fields []string
	for _, w := range words {
		fields = append(fields, expand.Fields(r.vars, w.Parts)...)
	}
	return fields
}
