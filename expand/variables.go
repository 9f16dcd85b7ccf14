package expand

import (
	"slices"
	"strconv"
	"strings"
)

// variable is a name with its value.
type variable struct{ name, value string }

// variablesOf are the variables by their rising names: of each name the first one.
func variablesOf(v Vars) []variable {
	l := make([]variable, len(v.Names))
	rising := true
	for i, name := range v.Names {
		l[i].name = name
		if i < len(v.Values) {
			l[i].value = v.Values[i]
		}
		rising = rising && (i == 0 || v.Names[i-1] < name)
	}
	if rising {
		return l
	}
	slices.SortStableFunc(l, func(a, b variable) int { return strings.Compare(a.name, b.name) })
	return slices.CompactFunc(l, func(a, b variable) bool { return a.name == b.name })
}

// placeOf is where a name stands among variables by their rising names, and yes; or where it would stand, and no.
func placeOf(l []variable, name string) (int, bool) {
	return slices.BinarySearchFunc(l, name, func(x variable, name string) int { return strings.Compare(x.name, name) })
}

// withValue are the variables, the name among them with that value. It writes to the list that it is handed.
func withValue(l []variable, name, value string) []variable {
	at, there := placeOf(l, name)
	if !there {
		l = slices.Insert(l, at, variable{name: name})
	}
	l[at].value = value
	return l
}

// valuesOf tells each parameter's value. The variables are put in their row just once, however many parameters are asked for.
func valuesOf(v Vars) func(name string) string {
	l := variablesOf(v)
	return func(name string) string {
		switch name {
		case "#":
			return strconv.Itoa(len(v.Args))
		case "?":
			return strconv.Itoa(v.Status)
		case "1", "2", "3", "4", "5", "6", "7", "8", "9":
			return argument(v.Args, int(name[0]-'0'))
		}
		at, there := placeOf(l, name)
		if !there {
			return ""
		}
		return l[at].value
	}
}

// argument is the argument of a number, the first one being 1; of one that is not there the empty text.
func argument(args []string, number int) string {
	if number > len(args) {
		return ""
	}
	return args[number-1]
}
