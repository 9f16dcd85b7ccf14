package shell

import (
	"touchstone/api"
	"touchstone/expand"
)

func (r *run) doNone(api.Cmd, bool) { r.vars.Status = 0 }

func (r *run) doSimple(c api.Cmd, looked bool) {
	r.step()
	if c.Name != "" {
		r.assign(c.Name, expand.Text(r.vars, c.Words[0].Parts))
	} else {
		r.call(r.fieldsOf(c.Words))
	}
	if looked && r.endsByFailed && !r.succeeded() {
		panic(ended{code: r.vars.Status})
	}
}

func (r *run) assign(name, value string) {
	if r.gets(name, value) {
		r.vars.Status = 0
	}
}

func (r *run) doNot(c api.Cmd, _ bool) {
	r.do(c.Kids[0], false)
	r.turn()
}

func (r *run) doAnd(c api.Cmd, looked bool) {
	r.do(c.Kids[0], false)
	if r.succeeded() {
		r.do(c.Kids[1], looked)
	}
}

func (r *run) doOr(c api.Cmd, looked bool) {
	r.do(c.Kids[0], false)
	if !r.succeeded() {
		r.do(c.Kids[1], looked)
	}
}

func (r *run) doSeq(c api.Cmd, looked bool) {
	for _, kid := range c.Kids {
		r.do(kid, looked)
	}
}

func (r *run) doIf(c api.Cmd, looked bool) {
	r.do(c.Kids[0], false)
	switch {
	case r.succeeded():
		r.do(c.Kids[1], looked)
	case len(c.Kids) > 2:
		r.do(c.Kids[2], looked)
	default:
		r.vars.Status = 0
	}
}

func (r *run) doWhile(c api.Cmd, looked bool) {
	r.loop(c.Kids[1], looked, func() { r.do(c.Kids[0], false) })
}

func (r *run) doUntil(c api.Cmd, looked bool) {
	r.loop(c.Kids[1], looked, func() {
		r.do(c.Kids[0], false)
		r.turn()
	})
}

// loop runs a body as long as the status is 0 behind what is done ahead of each turn.
func (r *run) loop(body api.Cmd, looked bool, ahead func()) {
	last := 0
	for ahead(); r.succeeded(); ahead() {
		r.step()
		r.do(body, looked)
		last = r.vars.Status
	}
	r.vars.Status = last
}

func (r *run) doFor(c api.Cmd, looked bool) {
	fields := r.fieldsOf(c.Words)
	if len(fields) == 0 {
		r.vars.Status = 0
	}
	for _, field := range fields {
		r.step()
		if r.gets(c.Name, field) {
			r.do(c.Kids[0], looked)
		}
	}
}
