package shell_test

import (
	"slices"
	"strings"
	"sync"
	"testing"
	"unsafe"

	"touchstone/api"
	"touchstone/ftree"
	"touchstone/shell"
	"touchstone/syntax"
)

// loose makes texts and lists whose memory may be written over later.
type loose struct{ bytes [][]byte }

// text is the same text over such memory.
func (l *loose) text(s string) string {
	b := append([]byte(s), ' ')
	l.bytes = append(l.bytes, b)
	return unsafe.String(&b[0], len(s))
}

// texts is the same list, with room behind it in which another text stands.
func (l *loose) texts(texts []string) []string {
	room := make([]string, 0, len(texts)+1)
	for _, s := range texts {
		room = append(room, l.text(s))
	}
	return append(room, "room")[:len(texts)]
}

// words is the same list of words, with room behind each of its lists.
func (l *loose) words(words []api.Word) []api.Word {
	room := make([]api.Word, 0, len(words)+1)
	for _, w := range words {
		parts := make([]api.Part, 0, len(w.Parts)+1)
		for _, p := range w.Parts {
			p.Text = l.text(p.Text)
			parts = append(parts, p)
		}
		room = append(room, api.Word{Parts: append(parts, api.Part{Text: "room"})[:len(w.Parts)], At: w.At})
	}
	return append(room, word("room"))[:len(words)]
}

// command is the same command, with room behind each of its lists.
func (l *loose) command(c api.Cmd) api.Cmd {
	kids := make([]api.Cmd, 0, len(c.Kids)+1)
	for _, kid := range c.Kids {
		kids = append(kids, l.command(kid))
	}
	return api.Cmd{Kind: c.Kind, At: c.At, Name: l.text(c.Name), Words: l.words(c.Words), Kids: append(kids, call("room"))[:len(c.Kids)]}
}

// node is the same node, with room behind each of its lists.
func (l *loose) node(n api.Node) api.Node {
	kids := make([]api.Node, 0, len(n.Kids)+1)
	for _, kid := range n.Kids {
		kids = append(kids, l.node(kid))
	}
	return api.Node{Kind: n.Kind, Text: l.text(n.Text), Names: l.texts(n.Names), Kids: append(kids, api.Node{Kind: api.File, Text: "room"})[:len(n.Kids)]}
}

// writeOver writes over all texts.
func (l *loose) writeOver() {
	for _, b := range l.bytes {
		for i := range b {
			b[i] = 'W'
		}
	}
}

// writeOverCommand writes over a command's lists, the room behind them too.
func writeOverCommand(c api.Cmd) {
	for _, kid := range c.Kids {
		writeOverCommand(kid)
	}
	for _, w := range c.Words {
		parts := w.Parts[:cap(w.Parts)]
		for i := range parts {
			parts[i] = api.Part{Text: "written"}
		}
	}
	words, kids := c.Words[:cap(c.Words)], c.Kids[:cap(c.Kids)]
	clear(words)
	clear(kids)
}

// writeOverNode writes over a node's lists, the room behind them too.
func writeOverNode(n api.Node) {
	for _, kid := range n.Kids {
		writeOverNode(kid)
	}
	names, kids := n.Names[:cap(n.Names)], n.Kids[:cap(n.Kids)]
	for i := range names {
		names[i] = "written"
	}
	for i := range kids {
		kids[i] = api.Node{Kind: api.Link, Text: "written"}
	}
}

// someRuns are scripts of all sorts, of which each ends in some way.
func someRuns() []string {
	return list("", "x=a", "x=$1; echo $x $y", "echo $1 \"$2\" ${3}", "echo a", "nix", "$1", "mkdir $1; touch a/b; ln -s $2 l", "mv f g; cp g h; cp -r d e; rm -r d", "touch f x y z", "for f in $2 q; do mkdir $f || echo $f; done", "while test -e f; do rm f; done", "until mkdir q; do :; done",
		"if test -d d; then echo d; else echo no; fi", "! true", "a && b || c", "set -e; false; echo", "exit 3", "exit", "exit $2", "x=$1$1; y=$x; echo $y", "while :; do :; done", "while :; do echo $1; done", "x=$1; f=$x; for f in $f; do x=a$x; mkdir $x; done; echo $x", "echo a b c; ls; test", "cp -r d p; cp -r d q; cp -r p q", "$1 $2", "exit 9; exit")
}

func root(t *testing.T) api.Node {
	t.Helper()
	return nodeOf(t, "d/e/f=x", "d/l>e", "f=text", "k/")
}

// R3: what is handed in is neither changed nor kept, nor read behind its end: it may be written over, lists, the room
// behind them, and bytes, and what came out is no other one then.
func TestWritingOverWhatWasHandedIn(t *testing.T) {
	for _, script := range someRuns() {
		for _, args := range [][]string{nil, {"a"}, {"a", "b  c", "d"}, {strings.Repeat("v", api.MaxValue), "0"}} {
			plain := parsed(t, script)
			want := runs(plain, root(t), 300, args...)
			var l loose
			c, n, env := l.command(plain), l.node(root(t)), l.texts(args)
			r, e := shell.Run(c, n, api.Env{Args: env}, 300)
			if !syntax.Same(c, plain) || !ftree.Same(n, root(t)) || !slices.Equal(env, args) || c.At != plain.At {
				t.Fatalf("%q: what was handed in is %v, %v, %q then", script, c, n, env)
			}
			if kids := n.Kids[:cap(n.Kids)]; kids[len(n.Kids)].Text != "room" || env[:cap(env)][len(env)] != "room" || n.Names[:cap(n.Names)][len(n.Names)] != "room" {
				t.Fatalf("%q: the room is %v, %q", script, kids, env[:cap(env)])
			}
			l.writeOver()
			writeOverCommand(c)
			writeOverNode(n)
			for i := range env {
				env[i] = "written"
			}
			got := outcome{r.Code, r.Out, r.Err, textOf(r.Tree), e}
			if e != api.OK {
				got = refusedBy(e)
			}
			if got != want {
				t.Errorf("%q: %v; want %v", script, got, want)
			}
		}
	}
}

// R3: what comes out may be written over: no later run shows it, and no two of its lists share memory.
func TestWritingOverWhatCameOut(t *testing.T) {
	for _, script := range someRuns() {
		c := parsed(t, script)
		args := list("a", "b  c")
		want := runs(c, root(t), 300, args...)
		for range 2 {
			r, e := shell.Run(c, root(t), api.Env{Args: args}, 300)
			if e != api.OK {
				continue
			}
			if text := textOf(r.Tree); text != want.tree {
				t.Fatalf("%q: the tree is %q; want %q", script, text, want.tree)
			}
			checkListsApart(t, script, r.Tree)
			writeOverNode(r.Tree)
		}
		if got := runs(c, root(t), 300, args...); got != want {
			t.Errorf("%q: %v; want %v", script, got, want)
		}
	}
}

// checkListsApart checks that no two lists of a node share memory, with the room behind them.
func checkListsApart(t *testing.T, script string, n api.Node) {
	t.Helper()
	names, kids := map[*string]bool{}, map[*api.Node]bool{}
	var visit func(n api.Node)
	visit = func(n api.Node) {
		for i := range cap(n.Names) {
			at := &n.Names[:cap(n.Names)][i]
			if names[at] {
				t.Fatalf("%q: names of two nodes share memory", script)
			}
			names[at] = true
		}
		for i := range cap(n.Kids) {
			at := &n.Kids[:cap(n.Kids)][i]
			if kids[at] {
				t.Fatalf("%q: Kids of two nodes share memory", script)
			}
			kids[at] = true
		}
		for _, kid := range n.Kids {
			visit(kid)
		}
	}
	visit(n)
}

// R3: texts that come out share no bytes with what was handed in.
func TestTextsApart(t *testing.T) {
	within := func(a, b string) bool {
		x, y := uintptr(unsafe.Pointer(unsafe.StringData(a))), uintptr(unsafe.Pointer(unsafe.StringData(b)))
		return a != "" && b != "" && x < y+uintptr(len(b)) && y < x+uintptr(len(a))
	}
	for _, script := range someRuns() {
		args := list("one", "two  words")
		in := slices.Clone(args)
		c, n := parsed(t, script), root(t)
		in = append(in, textsOfCommand(c)...)
		in = append(in, textsOfNode(n)...)
		r, _ := shell.Run(c, n, api.Env{Args: args}, 300)
		for _, out := range append(textsOfNode(r.Tree), r.Out, r.Err) {
			for _, text := range in {
				if within(out, text) {
					t.Errorf("%q: %q shares memory with %q", script, out, text)
				}
			}
		}
	}
	for _, words := range [][]string{{"nix"}, {""}, {"echo", "a"}, {"mkdir", "/"}, {"test", "a", "b"}, {"mv", "a", "b"}, {"mv"}} {
		_, out, err := shell.Utility(newTree(t, root(t)), words)
		for _, word := range words {
			if within(out, word) || within(err, word) {
				t.Errorf("%q: %q, %q share memory", words, out, err)
			}
		}
	}
}

func textsOfCommand(c api.Cmd) []string {
	texts := list(c.Name)
	for _, w := range c.Words {
		for _, p := range w.Parts {
			texts = append(texts, p.Text)
		}
	}
	for _, kid := range c.Kids {
		texts = append(texts, textsOfCommand(kid)...)
	}
	return texts
}

func textsOfNode(n api.Node) []string {
	texts := append(list(n.Text), n.Names...)
	for _, kid := range n.Kids {
		texts = append(texts, textsOfNode(kid)...)
	}
	return texts
}

// R3: Utility's words are neither changed nor kept, nor read behind their end.
func TestWritingOverWords(t *testing.T) {
	for _, words := range append(someOperands(), list("nix"), list("exit", "3"), list("set", "-e"), list("")) {
		for _, name := range list("", "nix", "mkdir", "touch", "rm", "mv", "cp", "ln", "echo", "test", "[", "false") {
			all := append(list(name), words...)
			wants, gets := newTree(t, root(t)), newTree(t, root(t))
			want := utility(wants, all...)
			var l loose
			own := l.texts(all)
			got := utility(gets, own...)
			if !slices.Equal(own, all) || own[:len(own)+1][len(own)] != "room" {
				t.Errorf("%.100q became %.100q", all, own)
			}
			l.writeOver()
			clear(own)
			if got != want || !ftree.Same(wants.Root(), gets.Root()) {
				t.Errorf("%.100q: %.200v; want %.200v", all, got, want)
			}
		}
	}
}

// R2: a run leaves nothing behind for the next one: no variables, no status, no set -e, no text, no tree, no steps.
func TestNothingIsLeftBehind(t *testing.T) {
	after := parsed(t, "echo \"$?<$x$y$f>$1$#\"; false; test -e a || test -e q; echo $?; nix; mkdir b")
	want := outcome{0, "0<>two1\n1\n", "nix: not found\n", textOf(nodeOf(t, "b/")), api.OK}
	ahead := append(someRuns(), "set -e; x=left; y=left; f=left; mkdir a q; nix", "x=left; exit 3", "set -e; for f in 1 2; do :; done; false", "x=left; while :; do :; done", "x=left; while :; do echo $1; done")
	for _, script := range ahead {
		c := parsed(t, script)
		runs(c, root(t), 300, "left", "left")
		if got := runs(after, nodeOf(t), 7, "two"); got != want {
			t.Errorf("behind %q: %v; want %v", script, got, want)
		}
		runs(c, root(t), -1)
		runs(c, api.Node{}, 3)
		if got := runs(after, nodeOf(t), 7, "two"); got != want {
			t.Errorf("behind %q, refused: %v; want %v", script, got, want)
		}
	}
}

// R2: runs don't see one another, also at the same time, also of one command over one tree with the same arguments.
func TestAtTheSameTime(t *testing.T) {
	var wait sync.WaitGroup
	n, args := root(t), list("a", "b  c")
	for _, script := range someRuns() {
		c := parsed(t, script)
		want := runs(c, n, 300, args...)
		for range 4 {
			wait.Go(func() {
				if got := runs(c, n, 300, args...); got != want {
					t.Errorf("%q: %v; alone %v", script, got, want)
				}
			})
		}
	}
	wait.Wait()
}
