package guard

import (
	"strings"

	"docket/api"
)

// writer writes guards that may be. It ends early once what stands there is too long, whatever would come behind.
type writer struct{ strings.Builder }

func (w *writer) tooLong() bool {
	return w.Len() > api.MaxText
}

func (w *writer) part(p part) {
	kids := p.kids()
	// The sign stands ahead of the last kid.
	for i, kid := range kids {
		if i == len(kids)-1 {
			w.WriteString(p.sign() + " ")
		}
		w.kid(partOf(kid))
		if i < len(kids)-1 {
			w.WriteByte(' ')
		}
	}
	if len(kids) == 0 {
		w.WriteString(p.sign())
	}
}

// kid writes a part of another one.
func (w *writer) kid(p part) {
	switch {
	case w.tooLong():
	case len(p.kids()) == 0:
		w.part(p)
	default:
		w.WriteByte('(')
		w.part(p)
		w.WriteByte(')')
	}
}
