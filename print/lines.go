package print

import (
	"strings"

	"signetry/api"
)

// lines is a text that is being written, line by line.
type lines struct {
	strings.Builder
	deep int // how many braces are open
}

// line writes a line that consists of these parts. Once the text is too long to
// be returned, the rest of it is left out.
func (l *lines) line(parts ...string) {
	if l.Len() > api.MaxText {
		return
	}
	for range l.deep {
		l.WriteString("  ")
	}
	for _, s := range parts {
		l.WriteString(s)
	}
	l.WriteByte('\n')
}

// open writes the line with which an element begins that has others in it.
func (l *lines) open(keyword, name string) {
	l.line(keyword, " ", name, " {")
	l.deep++
}

// close writes the line with which the element ends that was opened last.
func (l *lines) close() {
	l.deep--
	l.line("}")
}

// reserved writes one line for all that is reserved in one way, if there is any.
func (l *lines) reserved(all []string) {
	if len(all) > 0 {
		l.line("reserved ", strings.Join(all, ", "), ";")
	}
}
