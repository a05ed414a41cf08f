package guard

import (
	"strconv"

	"docket/api"
)

// part is a guard as it is gone through; what kind it is of is told by its type. Its kids are parts only once they are gone to: a guard that may be can be too great to stand twice.
type part interface {
	kids() []api.Guard
	// sign stands ahead of one kid, and between two; without kids it is all that is written.
	sign() string
}

// stem is what all kinds have.
type stem struct{ list []api.Guard }

func (s stem) kids() []api.Guard { return s.list }

type (
	truth struct {
		stem
		is bool
	}
	number struct {
		stem
		n int64
	}
	chars struct {
		stem
		text string
	}
	attr struct {
		stem
		name string
	}
	open struct {
		stem
		name string
	}
	done struct {
		stem
		name string
	}
	not        struct{ stem }
	and        struct{ stem }
	or         struct{ stem }
	same       struct{ stem }
	less       struct{ stem }
	sum        struct{ stem }
	difference struct{ stem }
	product    struct{ stem }
)

func (p truth) sign() string    { return strconv.FormatBool(p.is) }
func (p number) sign() string   { return strconv.FormatInt(p.n, 10) }
func (p chars) sign() string    { return "'" + p.text + "'" }
func (p attr) sign() string     { return p.name }
func (p open) sign() string     { return "open(" + p.name + ")" }
func (p done) sign() string     { return "done(" + p.name + ")" }
func (not) sign() string        { return "not" }
func (and) sign() string        { return "and" }
func (or) sign() string         { return "or" }
func (same) sign() string       { return "=" }
func (less) sign() string       { return "<" }
func (sum) sign() string        { return "+" }
func (difference) sign() string { return "-" }
func (product) sign() string    { return "*" }

// partOf is for guards that may be: of a Kind that is none it makes nothing.
func partOf(g api.Guard) part {
	s := stem{g.Kids}
	switch g.Kind {
	case api.GuardTrue, api.GuardFalse:
		return truth{s, g.Kind == api.GuardTrue}
	case api.GuardInt:
		return number{s, g.Int}
	case api.GuardText:
		return chars{s, g.Text}
	case api.GuardAttr:
		return attr{s, g.Text}
	case api.GuardOpen:
		return open{s, g.Text}
	case api.GuardDone:
		return done{s, g.Text}
	case api.GuardNot:
		return not{s}
	case api.GuardAnd:
		return and{s}
	case api.GuardOr:
		return or{s}
	case api.GuardSame:
		return same{s}
	case api.GuardLess:
		return less{s}
	case api.GuardAdd:
		return sum{s}
	case api.GuardSub:
		return difference{s}
	case api.GuardMul:
		return product{s}
	}
	return nil
}
