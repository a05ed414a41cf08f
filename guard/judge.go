package guard

import "docket/api"

// judge tells what is wrong with g: that it may not be goes ahead of how deep it is.
func judge(g api.Guard) api.Errno {
	switch d := depth(g); {
	case d == 0:
		return api.ErrBad
	case d > api.MaxDepth:
		return api.ErrDepth
	}
	return api.OK
}

// depth is 0 of a guard that may not be.
func depth(g api.Guard) int {
	if !hasForm(g) {
		return 0
	}
	deepest := 0
	for _, kid := range g.Kids {
		d := depth(kid)
		if d == 0 {
			return 0
		}
		deepest = max(deepest, d)
	}
	return deepest + 1
}

// hasForm tells whether g has what its Kind asks for, and nothing else, whatever its kids are: it empties the Kind's own fields, of which nothing may be left then.
func hasForm(g api.Guard) bool {
	kids := 0
	switch g.Kind {
	case api.GuardTrue, api.GuardFalse:
	case api.GuardInt:
		if g.Int < 0 {
			return false
		}
		g.Int = 0
	case api.GuardText:
		if charsIn(g.Text) < len(g.Text) {
			return false
		}
		g.Text = ""
	case api.GuardAttr, api.GuardOpen, api.GuardDone:
		if !isName(g.Text) {
			return false
		}
		g.Text = ""
	case api.GuardNot:
		kids = 1
	case api.GuardAnd, api.GuardOr, api.GuardSame, api.GuardLess, api.GuardAdd, api.GuardSub, api.GuardMul:
		kids = 2
	default:
		return false
	}
	return len(g.Kids) == kids && g.Int == 0 && g.Text == ""
}

func isName(s string) bool {
	return s != "" && len(s) <= api.MaxName && wordIn(s) == len(s) && !isTaken(s)
}

func isTaken(word string) bool {
	switch word {
	case "and", "or", "not", "true", "false", "open", "done":
		return true
	}
	return false
}
