package roles

import "docket/api"

// rolesFit asks for no more than MaxRoles.
func rolesFit(l []api.Role) bool {
	named := set{}
	for _, r := range l {
		if !isName(r.Name) || named.has(r.Name) {
			return false
		}
		named.put(r.Name)
	}
	for _, r := range l {
		if !holdsFit(r.Holds, named) || !mayFits(r.May) {
			return false
		}
	}
	return true
}

func holdsFit(holds []string, named set) bool {
	if len(holds) > api.MaxRoles {
		return false
	}
	for _, name := range holds {
		if !named.has(name) {
			return false
		}
	}
	return true
}

func mayFits(may []string) bool {
	if len(may) > api.MaxItems {
		return false
	}
	for _, deed := range may {
		if !isName(deed) {
			return false
		}
	}
	return true
}

func isName(s string) bool {
	if len(s) < 1 || len(s) > api.MaxName {
		return false
	}
	for i := range len(s) {
		if !isNameByte(s[i]) {
			return false
		}
	}
	return true
}

func isNameByte(c byte) bool {
	return 'a' <= c && c <= 'z' || '0' <= c && c <= '9' || c == '-' || c == '_' || c == '.'
}
