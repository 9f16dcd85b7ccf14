package shell_test

import (
	"strings"
	"testing"

	"touchstone/api"
)

// P15.2: While that never turns, turns once and often, and the status behind it, which is the body's.
func TestWhile(t *testing.T) {
	checkSame(t,
		row{"while false; do echo a; done", 0, "", ""}, row{"while nix; do echo a; done; echo $?", 0, "0,", "nix: not found,"}, row{"false; while false; do nix; done", 0, "", ""}, row{"while true; false; do echo a; done; echo $?", 0, "0,", ""}, row{"false; while echo $?; false; do :; done", 0, "1,", ""},
		row{"x=a; while test $x; do x=; done; echo $?", 0, "0,", ""}, row{"x=a; while test $x; do x=; false; done; echo $?", 0, "1,", ""}, row{"x=a; while test $x; do x=; nix; done", 127, "", "nix: not found,"}, row{"x=a; while test $x; do echo $?; x=; ! :; done; echo $?", 0, "0,1,", ""},
		row{"while test \"$x\" != aaa; do x=a$x; echo $x; done; echo $?", 0, "a,aa,aaa,0,", ""}, row{"while test \"$x\" != aaa; do x=a$x; test $x = aaa; done; echo $?", 0, "0,", ""}, row{"while test \"$x\" != aaa; do x=a$x; test $x = a; done; echo $?", 0, "1,", ""}, row{"while echo $?; test \"$x\" != aa; do x=a$x; nix; done; echo $?", 0, "0,127,127,127,", "nix: not found,nix: not found,"},
		row{"while true; do exit 5; done; echo", 5, "", ""}, row{"while exit 5; do :; done; echo", 5, "", ""}, row{"while true; do nix; exit; done", 127, "", "nix: not found,"}, row{"while true; do while test $y; do :; done; echo $?; exit; done", 0, "0,", ""},
		row{"while test \"$x\" != aa; do x=a$x; y=; while test \"$y\" != bb; do y=b$y; echo $x$y; false; done; echo $?; done; echo $?", 0, "ab,abb,1,aab,aabb,1,0,", ""},
		row{"if while false; do :; done; then echo a; fi", 0, "a,", ""}, row{"x=a; while test $x; do x=; false; done || echo $?", 0, "1,", ""}, row{"x=a; ! while test $x; do x=; false; done", 0, "", ""},
	)
	checkRows(t, nodeOf(t), nodeOf(t, "a/"), row{"while mkdir a; do false; done", 1, "", "mkdir: a: there already,"})
	checkRows(t, nodeOf(t, "a/a/a/"), nodeOf(t, "b/"), row{"while test -d a/a; do mv a b; mv b/a a; rmdir b || echo $?; done; mv a b; echo $?", 0, "0,", ""})
}

// P15.2: Until likewise; the status that is not 0 becomes 0 ahead of the body.
func TestUntil(t *testing.T) {
	checkSame(t,
		row{"until true; do echo a; done", 0, "", ""}, row{"until echo a; do echo b; done; echo $?", 0, "a,0,", ""}, row{"false; until true; do nix; done", 0, "", ""}, row{"until false; true; do echo a; done", 0, "", ""}, row{"until ! false; do :; done; echo $?", 0, "0,", ""}, row{"false; until echo $?; do :; done", 0, "1,", ""},
		row{"until test $x; do x=a; done; echo $?", 0, "0,", ""}, row{"until test $x; do x=a; false; done; echo $?", 0, "1,", ""}, row{"until test $x; do x=a; nix; done", 127, "", "nix: not found,"}, row{"until test $x; do echo $?; x=a; done", 0, "0,", ""}, row{"until nix; do echo $?; exit 3; done", 3, "0,", "nix: not found,"}, row{"until nix; do exit; done", 0, "", "nix: not found,"}, row{"until test a b; do exit; done", 0, "", "test: usage,"},
		row{"until test \"$x\" = aaa; do x=a$x; echo $x; done; echo $?", 0, "a,aa,aaa,0,", ""}, row{"until test \"$x\" = aaa; do x=a$x; test $x = aaa; done; echo $?", 0, "0,", ""}, row{"until test \"$x\" = aaa; do x=a$x; test $x = a; done; echo $?", 0, "1,", ""}, row{"until echo $?; test \"$x\" = aa; do x=a$x; nix; done; echo $?", 0, "0,127,127,127,", "nix: not found,nix: not found,"},
		row{"until exit 5; do :; done; echo", 5, "", ""}, row{"until false; do exit 5; done; echo", 5, "", ""}, row{"until true; do :; done && echo a", 0, "a,", ""}, row{"! until test $x; do x=a; false; done", 0, "", ""},
	)
	checkRows(t, nodeOf(t), nodeOf(t, "a/"), row{"until rmdir a; do mkdir a && nix; done; mkdir a; echo $?", 0, "0,", "rmdir: a: not there,nix: not found,"})
}

// P15.2: For with no fields, one and several; the fields are made ahead, and the status behind is the body's.
func TestFor(t *testing.T) {
	checkSame(t,
		row{"for f in; do echo a; done", 0, "", ""}, row{"false; for f in; do nix; done; echo $?", 0, "0,", ""}, row{"nix; for f in $u $u; do echo a; done", 0, "", "nix: not found,"}, row{"f=q; for f in $u; do :; done; echo $f", 0, "q,", ""}, row{"false; for f in $u; do :; done && echo a", 0, "a,", ""},
		row{"for f in a; do echo $f; done; echo $? $f", 0, "a,0 a,", ""}, row{"for f in a; do false; done; echo $?", 0, "1,", ""}, row{"for f in a; do nix; done", 127, "", "nix: not found,"}, row{"for f in ''; do echo \"<$f>\"; done", 0, "<>,", ""},
		row{"for f in a b c; do echo $f; done", 0, "a,b,c,", ""}, row{"for f in a b c; do echo $f; false; done; echo $? $f", 0, "a,b,c,1 c,", ""}, row{"for f in a b; do test $f = b; done; echo $?", 0, "0,", ""}, row{"for f in a b; do test $f = a; done; echo $?", 0, "1,", ""}, row{"for f in a a; do echo $f; done", 0, "a,a,", ""}, row{"for f in a b; do echo $?; nix; done", 127, "0,127,", "nix: not found,nix: not found,"},
		row{"for f in $3; do echo $f; done", 0, "3,three,", ""}, row{"for f in \"$3\"; do echo \"$f\"; done", 0, " 3  three ,", ""}, row{"for f in a$3\"b c\" d $u ''; do echo \"<$f>\"; done", 0, "<a>,<3>,<three>,<b c>,<d>,<>,", ""}, row{"x='a b'; for f in $x \"$x\" c$x; do echo \"$f\"; done", 0, "a,b,a b,ca,b,", ""}, row{"for f in if then fi ! { }; do echo $f; done", 0, "if,then,fi,!,{,},", ""},
		row{"x=b; for f in a $x; do x=q; echo $f; done; echo $x", 0, "a,b,q,", ""}, row{"for f in a b $f; do echo $f; done", 0, "a,b,", ""}, row{"f='a b'; for f in $f $f; do echo $f; done", 0, "a,b,a,b,", ""}, row{"for f in a b; do f=q$f; echo $f; done; echo $f", 0, "qa,qb,qb,", ""},
		row{"false; for f in $?; do echo $f $?; done", 0, "1 1,", ""}, row{"nix; for f in a b; do echo $? $f; done", 0, "127 a,0 b,", "nix: not found,"}, row{"false; for f in a; do exit; done", 1, "", ""},
		row{"for f in a b; do for g in 1 2; do echo $f$g; done; done", 0, "a1,a2,b1,b2,", ""}, row{"for f in a b; do for f in 1 2; do echo $f; done; echo $f; done", 0, "1,2,2,1,2,2,", ""}, row{"for f in a b; do exit 6; done; echo", 6, "", ""}, row{"for f in a b; do test $f = a || exit 7; echo $f; done", 7, "a,", ""},
		row{"! for f in a; do false; done", 0, "", ""}, row{"for f in a; do false; done || echo $?", 0, "1,", ""}, row{"if for f in a b; do nix; done; then :; else echo $? $f; fi", 0, "127 b,", "nix: not found,nix: not found,"},
	)
	checkRows(t, nodeOf(t), nodeOf(t, "a/", "b/", "c/"), row{"for f in a b a c; do mkdir $f || echo $f; done", 0, "a,", "mkdir: a: there already,"})
}

// P15.2: a field that expand.Set refuses: its line, and the status as of an assignment, without the body.
func TestForWithRefusedFields(t *testing.T) {
	checkSame(t,
		row{"for f in a$1; do echo no; done", 1, "", "f: too large,"}, row{"for f in a$1; do echo no; done; echo $? $f", 0, "1,", "f: too large,"}, row{"f=q; for f in \"$1 \"; do exit 3; done; echo $? $f", 0, "1 q,", "f: too large,"}, row{"for f in $1 $1; do test $f = $1 && echo $?; done", 0, "0,0,", ""},
		row{"for f in a$1 b c; do echo $? $f; done; echo $?", 0, "1 b,0 c,0,", "f: too large,"}, row{"for f in a b$1 c; do echo $? $f; done; echo $?", 0, "0 a,1 c,0,", "f: too large,"}, row{"for f in a b c$1; do echo $? $f; done; echo $? $f", 0, "0 a,0 b,1 b,", "f: too large,"},
		row{"for f in a b$1 c; do nix; done; echo $?", 0, "127,", "nix: not found,f: too large,nix: not found,"}, row{"for f in a b$1; do nix; done; echo $?", 0, "1,", "nix: not found,f: too large,"}, row{"for f in b$1 c$1 d$1; do echo no; done; echo $?", 0, "1,", "f: too large,f: too large,f: too large,"}, row{"for name_2 in $2 $1$1; do echo $name_2; done", 1, "two,", "name_2: too large,"},
		row{"for f in a$1; do :; done || echo $?", 0, "1,", "f: too large,"}, row{"for f in a$1; do :; done && echo no", 1, "", "f: too large,"}, row{"! for f in a$1; do :; done", 0, "", "f: too large,"}, row{"for f in a$1; do :; done; exit", 1, "", "f: too large,"}, row{"for f in $u a$1 $u; do :; done; for f in $u; do :; done; echo $?", 0, "0,", "f: too large,"},
	)
}

// P15.2: of For's fields there may be more than a command may have words.
func TestForWithManyFields(t *testing.T) {
	many := strings.TrimSuffix(strings.Repeat("a ", api.MaxValue/2), " ")
	c := parsed(t, "for f in $1 $1 $1; do x=$x; done; mkdir $f; for f in $1; do echo $f; done")
	want := outcome{0, strings.Repeat("a\n", api.MaxValue/2), "", textOf(nodeOf(t, "a/")), api.OK}
	if got := runs(c, nodeOf(t), enough, many); got != want {
		t.Errorf("%v; want %v", got, want)
	}
}
