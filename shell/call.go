package shell

import "strconv"

const (
	// codeUsage is the code where the words of a call are wrong.
	codeUsage = 2
	// mostCode is the greatest code by which a run ends.
	mostCode = 255
)

// call runs a call of fields; of none the status is 0.
func (r *run) call(fields []string) {
	if len(fields) == 0 {
		r.vars.Status = 0
		return
	}
	switch fields[0] {
	case "exit":
		r.callExit(fields[1:])
	case "set":
		r.callSet(fields[1:])
	default:
		code, out, err := Utility(r.fs, fields)
		r.write(out, err)
		r.vars.Status = code
	}
}

// callExit ends the run, if its operands are not wrong.
func (r *run) callExit(operands []string) {
	if len(operands) == 0 {
		panic(ended{code: r.vars.Status})
	}
	if code, ok := codeOf(operands[0]); ok && len(operands) == 1 {
		panic(ended{code: code})
	}
	r.usage("exit")
}

// codeOf is the code that a text tells.
func codeOf(text string) (int, bool) {
	code, err := strconv.Atoi(text)
	// Atoi reads other forms, too: a + ahead, and noughts.
	if err != nil || strconv.Itoa(code) != text || code < 0 || code > mostCode {
		return 0, false
	}
	return code, true
}

// callSet asks for that the run ends by what fails, or takes that back.
func (r *run) callSet(operands []string) {
	if len(operands) != 1 || operands[0] != "-e" && operands[0] != "+e" {
		r.usage("set")
		return
	}
	r.endsByFailed = operands[0] == "-e"
	r.vars.Status = 0
}

// usage tells that the words of a call are wrong.
func (r *run) usage(name string) {
	r.write("", name+": usage\n")
	r.vars.Status = codeUsage
}
