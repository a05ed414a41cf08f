package guard

import "docket/api"

// reader goes through a text token by token. Once it has refused one it takes no other, so that the next token stays the one that was refused.
type reader struct {
	text    string
	next    token
	refused bool
}

func (r *reader) advance() {
	at := r.next.end
	for at < len(r.text) && r.text[at] == ' ' {
		at++
	}
	r.next = tokenAt(r.text, at)
}

// takes goes beyond the next token, if it is that.
func (r *reader) takes(what string) bool {
	is := !r.refused && r.next.what == what
	if is {
		r.advance()
	}
	return is
}

// must goes beyond the next token, which may be nothing else.
func (r *reader) must(what string) {
	if !r.takes(what) {
		r.refused = true
	}
}

// whole reads the one guard that a text is.
func (r *reader) whole() api.Guard {
	r.advance()
	g := r.guard()
	r.must(theEnd)
	return g
}

func (r *reader) guard() api.Guard {
	g := r.side()
	for r.takes("or") {
		g = pair(api.GuardOr, g, r.side())
	}
	return g
}

func (r *reader) side() api.Guard {
	g := r.negated()
	for r.takes("and") {
		g = pair(api.GuardAnd, g, r.negated())
	}
	return g
}

// negated reads what the chapter calls a part.
func (r *reader) negated() api.Guard {
	if r.takes("not") {
		return api.Guard{Kind: api.GuardNot, Kids: []api.Guard{r.negated()}}
	}
	return r.relation()
}

func (r *reader) relation() api.Guard {
	g := r.sum()
	switch {
	case r.takes("="):
		return pair(api.GuardSame, g, r.sum())
	case r.takes("<"):
		return pair(api.GuardLess, g, r.sum())
	}
	return g
}

func (r *reader) sum() api.Guard {
	g := r.product()
	for {
		switch {
		case r.takes("+"):
			g = pair(api.GuardAdd, g, r.product())
		case r.takes("-"):
			g = pair(api.GuardSub, g, r.product())
		default:
			return g
		}
	}
}

func (r *reader) product() api.Guard {
	g := r.atom()
	for r.takes("*") {
		g = pair(api.GuardMul, g, r.atom())
	}
	return g
}

func (r *reader) atom() api.Guard {
	t := r.next
	switch {
	case r.takes("true"):
		return api.Guard{Kind: api.GuardTrue}
	case r.takes("false"):
		return api.Guard{Kind: api.GuardFalse}
	case r.takes(aNumber):
		return api.Guard{Kind: api.GuardInt, Int: t.n}
	case r.takes(aText):
		return api.Guard{Kind: api.GuardText, Text: t.text}
	case r.takes(aName):
		return api.Guard{Kind: api.GuardAttr, Text: t.text}
	case r.takes("open"):
		return api.Guard{Kind: api.GuardOpen, Text: r.bracketed()}
	case r.takes("done"):
		return api.Guard{Kind: api.GuardDone, Text: r.bracketed()}
	case r.takes("("):
		g := r.guard()
		r.must(")")
		return g
	}
	r.refused = true
	return api.Guard{}
}

// bracketed reads a name in brackets.
func (r *reader) bracketed() string {
	r.must("(")
	name := r.next.text
	r.must(aName)
	r.must(")")
	return name
}

func pair(kind uint8, first, second api.Guard) api.Guard {
	return api.Guard{Kind: kind, Kids: []api.Guard{first, second}}
}
