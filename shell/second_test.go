package shell_test

import (
	"maps"
	"math/rand"
	"slices"
	"strconv"
	"strings"
	"testing"

	"touchstone/api"
	"touchstone/expand"
	"touchstone/ftree"
	"touchstone/print"
)

// machine is the second way: a script as one row of small instructions with jumps, gone through by a counter.
type machine struct {
	code     []func()
	at       int
	tree     *ftree.Tree
	values   map[string]string
	args     []string
	status   int
	strict   bool // set -e
	steps    int
	out, err string
	ended    bool
}

// machineOf is the machine of a command, ahead of its first instruction.
func machineOf(c api.Cmd, tree *ftree.Tree, args []string) *machine {
	m := &machine{tree: tree, values: map[string]string{}, args: args}
	m.compile(c, true)
	return m
}

// result is what the machine comes to with so much fuel.
func (m *machine) result(fuel int) outcome {
	for !m.ended && m.at < len(m.code) {
		next := m.code[m.at]
		m.at++
		next()
		switch {
		case m.steps > fuel:
			return refusedBy(api.ErrFuel)
		case len(m.out)+len(m.err) > api.MaxOut:
			return refusedBy(api.ErrTooLarge)
		}
	}
	return outcome{m.status, m.out, m.err, textOf(m.tree.Root()), api.OK}
}

func (m *machine) put(do func()) { m.code = append(m.code, do) }

// jump puts a jump that is taken where this holds; what it answers says where to.
func (m *machine) jump(holds func() bool) (lands func()) {
	to := 0
	m.put(func() {
		if holds() {
			m.at = to
		}
	})
	return func() { to = len(m.code) }
}

func (m *machine) succeeded() bool { return m.status == 0 }
func (m *machine) failed() bool    { return m.status != 0 }
func (m *machine) always() bool    { return true }
func (m *machine) step()           { m.steps++ }

// vars are the machine's variables for package expand.
func (m *machine) vars() expand.Vars {
	v := expand.Vars{Names: slices.Sorted(maps.Keys(m.values)), Args: m.args, Status: m.status}
	for _, name := range v.Names {
		v.Values = append(v.Values, m.values[name])
	}
	return v
}

func (m *machine) items(words []api.Word) []string {
	var l []api.Item
	for _, w := range words {
		l = append(l, api.Item{Parts: w.Parts, Split: true})
	}
	return expand.Items(m.vars(), l)
}

// assigned tells whether a value may be given, and gives it.
func (m *machine) assigned(name, value string) bool {
	if len(value) > api.MaxValue {
		m.err += name + ": too large\n"
		m.status = 1
		return false
	}
	m.values[name] = value
	return true
}

// calls runs a call of fields; the step was taken.
func (m *machine) calls(fields []string) {
	if len(fields) == 0 {
		m.status = 0
		return
	}
	name, operands := fields[0], fields[1:]
	if tells := tellers()[name]; tells != nil {
		code, out, err, _ := tells(m.tree, fields)
		m.status, m.out, m.err = code, m.out+out, m.err+err
		return
	}
	one := strings.Join(operands, " ")
	switch {
	case name == "exit" && len(operands) == 0:
		m.ended = true
	case name == "exit" && slices.Contains(numbers, one):
		m.ended = true
		m.status, _ = strconv.Atoi(one)
	case name == "set" && (one == "-e" || one == "+e"):
		m.strict, m.status = one == "-e", 0
	case name == "exit" || name == "set":
		m.err += name + ": usage\n"
		m.status = 2
	default:
		m.err += name + ": not found\n"
		m.status = 127
	}
}

// numbers are the operands that end a run.
var numbers = func() (l []string) {
	for n := range 256 {
		l = append(l, strconv.Itoa(n))
	}
	return l
}()

// compile puts the instructions of a command, looked at or not.
func (m *machine) compile(c api.Cmd, looked bool) {
	switch c.Kind {
	case api.None:
		m.put(func() { m.status = 0 })
	case api.Simple:
		m.put(m.step)
		m.put(m.simple(c))
		if looked {
			m.put(func() { m.ended = m.ended || m.strict && m.failed() })
		}
	case api.Not:
		m.compile(c.Kids[0], false)
		m.put(m.negate)
	case api.And, api.Or:
		m.compile(c.Kids[0], false)
		lands := m.jump(map[uint8]func() bool{api.And: m.failed, api.Or: m.succeeded}[c.Kind])
		m.compile(c.Kids[1], looked)
		lands()
	case api.Seq:
		for _, kid := range c.Kids {
			m.compile(kid, looked)
		}
	case api.If:
		m.compileIf(c, looked)
	case api.While, api.Until:
		m.compileLoop(c, looked)
	case api.For:
		m.compileFor(c, looked)
	}
}

func (m *machine) negate() { m.status = map[bool]int{true: 1, false: 0}[m.succeeded()] }

func (m *machine) simple(c api.Cmd) func() {
	if c.Name == "" {
		return func() { m.calls(m.items(c.Words)) }
	}
	return func() {
		if m.assigned(c.Name, expand.Text(m.vars(), c.Words[0].Parts)) {
			m.status = 0
		}
	}
}

func (m *machine) compileIf(c api.Cmd, looked bool) {
	m.compile(c.Kids[0], false)
	other := m.jump(m.failed)
	m.compile(c.Kids[1], looked)
	end := m.jump(m.always)
	other()
	if len(c.Kids) == 3 {
		m.compile(c.Kids[2], looked)
	} else {
		m.put(func() { m.status = 0 })
	}
	end()
}

func (m *machine) compileLoop(c api.Cmd, looked bool) {
	last := 0
	m.put(func() { last = 0 })
	begin := len(m.code)
	m.compile(c.Kids[0], false)
	if c.Kind == api.Until {
		m.put(m.negate)
	}
	end := m.jump(m.failed)
	m.put(m.step)
	m.compile(c.Kids[1], looked)
	m.put(func() { last, m.at = m.status, begin })
	end()
	m.put(func() { m.status = last })
}

func (m *machine) compileFor(c api.Cmd, looked bool) {
	var left []string
	m.put(func() {
		if left = m.items(c.Words); len(left) == 0 {
			m.status = 0
		}
	})
	begin := len(m.code)
	end := m.jump(func() bool { return len(left) == 0 })
	m.put(m.step)
	given := false
	m.put(func() { given = m.assigned(c.Name, left[0]) })
	without := m.jump(func() bool { return !given })
	m.compile(c.Kids[0], looked)
	without()
	m.put(func() { left, m.at = left[1:], begin })
	end()
}

// checkSecond checks a command's runs against the second way: with enough fuel, and with each number of steps around that
// which it takes; it answers the outcome.
func checkSecond(t *testing.T, c api.Cmd, root api.Node, most int, args ...string) outcome {
	t.Helper()
	m := machineOf(c, newTree(t, root), args)
	want := m.result(most)
	fuels := []int{most}
	if want.e != api.ErrFuel {
		fuels = append(fuels, m.steps, m.steps+1)
	}
	for _, fuel := range fuels {
		if got := runs(c, root, fuel, args...); got != want {
			script, _ := print.Show(c)
			t.Fatalf("%s\nfuel %d, arguments %.100q, tree %s: %v;\nwant %v", script, fuel, args, textOf(root), got, want)
		}
	}
	if want.e != api.ErrFuel && m.steps > 0 {
		if got := runs(c, root, m.steps-1, args...); got != refusedBy(api.ErrFuel) {
			script, _ := print.Show(c)
			t.Fatalf("%s\nfuel %d, a step too few: %v", script, m.steps-1, got)
		}
	}
	return want
}

// grower makes random scripts.
type grower struct {
	*rand.Rand
	plain bool // without parameters, exit and set
}

func (g *grower) one(of ...string) string { return of[g.Intn(len(of))] }

// operand is a word of a command.
func (g *grower) operand() string {
	if g.plain || g.Intn(3) > 0 {
		return g.one("a", "b", "c", "a/b", "b/a", "c/d", "'a b'", "''", "/", "..", "-r", "-p", "-f")
	}
	return g.one("$x", "$y", "$z", "\"$x\"", "\"$y$x\"", "$x$y", "$1", "\"$1\"", "$2", "$?", "$#", "a$x", "$9", "${y}b", "x$1$2", "$1$z")
}

// words are some operands.
func (g *grower) words(least, most int) string {
	text := ""
	for range least + g.Intn(most-least+1) {
		text += " " + g.operand()
	}
	return text
}

// simple is a simple command, or an assignment.
func (g *grower) simple() string {
	if !g.plain {
		switch g.Intn(14) {
		case 0, 1:
			return g.one("x", "y", "z") + "=" + g.operand()
		case 2:
			return g.one("exit", "exit 3", "exit $?", "exit $x", "exit 256", "exit a", "exit 0")
		case 3:
			return g.one("set -e", "set -e", "set -e", "set +e", "set", "set $x", "set -e -e")
		case 4:
			return g.one("$x", "$y", "$x $y", "$z", "$1") + g.words(0, 2)
		case 5:
			return g.one("echo $?", "echo \"<$x><$y>\"", "echo $z $1")
		}
	}
	switch g.Intn(12) {
	case 0, 1:
		return g.one("true", "false")
	case 2, 3:
		return "echo" + g.words(0, 2)
	case 4:
		return g.one("nix", "test a b", ":", "rm", "ls a")
	case 5, 6:
		return "test " + g.one("-e", "-f", "-d", "! -e", "-L", "-n", "-z") + g.words(1, 1)
	case 7, 8:
		return g.one("mkdir", "mkdir -p", "mkdir", "touch") + g.words(1, 2)
	case 9:
		return g.one("rm", "rm -r", "rm -rf", "rmdir", "rm -f") + g.words(1, 2)
	}
	return g.one("mv", "cp", "cp -r", "ln -s", "ln -sf", "mv") + g.words(2, 2)
}

// command is a command that is so deep at most.
func (g *grower) command(depth int) string {
	if depth <= 1 || g.Intn(5) == 0 {
		return g.simple()
	}
	sub := func() string { return g.command(depth - 1) }
	switch g.Intn(12) {
	case 0, 1:
		return "! { " + sub() + "; }"
	case 2:
		return "{ " + sub() + "; } && { " + sub() + "; }"
	case 3:
		return "{ " + sub() + "; } || { " + sub() + "; }"
	case 4, 5:
		return "{ " + sub() + "; " + sub() + "; " + sub() + "; }"
	case 6:
		return "if " + sub() + "; then " + sub() + "; fi"
	case 7:
		return "if " + sub() + "; then " + sub() + "; else " + sub() + "; fi"
	case 8, 9:
		return g.one("while", "until") + " " + sub() + "; do " + sub() + "; done"
	}
	return "for " + g.one("x", "y", "f") + " in" + g.words(0, 3) + "; do " + sub() + "; done"
}

// someTree is a tree with names of which the grower's words tell.
func (g *grower) someTree(t *testing.T) api.Node {
	return nodeOf(t, strings.Fields(g.one("", "a=x", "a/", "a/ b/", "a=x b=y", "a/b= c/", "a>b b/a/", "a/b/c= b>a c>x", "c/d/ b=", "a>a b/"))...)
}

// someArgs are arguments.
func (g *grower) someArgs() []string {
	return list("a", " b  c ", "", "mkdir a", "exit 4", "-e", "set -e", "echo", strings.Repeat("v", api.MaxValue-1), strings.Repeat("v ", api.MaxValue/2))[g.Intn(9):][:g.Intn(2)+1]
}

// P15.2, P15.4: many scripts of all sorts over many trees, against the second way.
func TestSomeScripts(t *testing.T) {
	g := &grower{Rand: rand.New(rand.NewSource(15))}
	codes, errors := map[int]int{}, map[api.Errno]int{}
	for range 20000 {
		script := g.command(1 + g.Intn(6))
		for range g.Intn(4) {
			script = g.command(1+g.Intn(3)) + "\n" + script
		}
		got := checkSecond(t, parsed(t, script), g.someTree(t), 200+g.Intn(100), g.someArgs()...)
		codes[got.code]++
		errors[got.e]++
	}
	for _, code := range []int{0, 1, 2, 3, 127} {
		if codes[code] < 100 {
			t.Errorf("code %d: %d scripts alone", code, codes[code])
		}
	}
	if errors[api.ErrFuel] < 100 || errors[api.ErrTooLarge] < 10 || errors[api.OK] < 10000 {
		t.Errorf("errors: %v", errors)
	}
}

// smallCommands are all commands that are so deep at most, of these simple ones.
func smallCommands(depth int, simple ...api.Cmd) []api.Cmd {
	if depth == 1 {
		return simple
	}
	less := smallCommands(depth-1, simple...)
	all := slices.Clone(simple)
	for _, a := range less {
		all = append(all, of(api.Not, a), api.Cmd{Kind: api.For, Name: "f", Kids: []api.Cmd{a}}, api.Cmd{Kind: api.For, Name: "f", Words: call("1", "2").Words, Kids: []api.Cmd{a}})
		for _, b := range less {
			for _, kind := range []uint8{api.And, api.Or, api.Seq, api.If, api.While, api.Until} {
				all = append(all, of(kind, a, b))
			}
			all = append(all, of(api.If, a, b, simple[0]), of(api.If, a, simple[0], b), of(api.If, simple[0], a, b))
		}
	}
	return all
}

// P15.2, P15.5: all small commands, with set -e ahead and without, against the second way.
func TestAllSmallCommands(t *testing.T) {
	simple := []api.Cmd{parsed(t, "mkdir a"), parsed(t, "nix")}
	count := 0
	for _, c := range smallCommands(3, simple...) {
		for _, ahead := range list("", "set -e") {
			whole := of(api.Seq, c, parsed(t, "echo $?; exit 9"))
			if ahead != "" {
				whole = of(api.Seq, parsed(t, ahead), c, parsed(t, "echo $?; exit 9"))
			}
			checkSecond(t, whole, nodeOf(t), 40)
			count++
		}
	}
	if count < 5000 {
		t.Errorf("%d commands alone", count)
	}
}
