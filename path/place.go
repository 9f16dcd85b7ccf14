package path

import (
	"slices"
	"strings"
)

// Show is a place as a path.
func Show(place []string) string {
	if len(place) == 0 {
		return "/"
	}
	var text strings.Builder
	for _, name := range place {
		text.WriteByte('/')
		text.WriteString(name)
	}
	return text.String()
}

// Under tells whether the place b is the place a, or stands below it.
func Under(a, b []string) bool {
	return len(a) <= len(b) && slices.Equal(a, b[:len(a)])
}

// Less tells whether the place a stands ahead of the place b.
func Less(a, b []string) bool { return slices.Compare(a, b) < 0 }
