package syntax

import (
	"mortise/api"
	"mortise/tokens"
)

// parent: a node whose kids are being gone through, and how many of them are still to come.
type parent struct {
	kind, left int
}

// Check: may a source have been parsed (places aside)? The definition and node at fault.
func Check(s api.Source) (def, node int, e api.Errno) {
	if len(s.Defs) > api.MaxDefs {
		return api.MaxDefs, 0, api.ErrMany
	}
	for i, d := range s.Defs {
		if !tokens.Name(d.Name) {
			return i, 0, api.ErrSource
		}
		if n, e := checkType(d.Type); e != api.OK {
			return i, n, e
		}
	}
	return 0, 0, api.OK
}

// checkType: the first node at fault of a type expression.
func checkType(list []api.Expr) (node int, e api.Errno) {
	// The definition stands first, as of no kind: the expression's first node is its one kid.
	parents := []parent{{left: 1}}
	for i, x := range list {
		if len(parents) == 0 {
			return i, api.ErrSource
		}
		last := len(parents) - 1
		if e := checkNode(x, parents[last].kind, last); e != api.OK {
			return i, e
		}
		parents[last].left--
		parents = withoutDone(append(parents, parent{x.Kind, x.Kids}))
	}
	if len(parents) > 0 {
		return len(list), api.ErrSource
	}
	return 0, api.OK
}

// withoutDone: the parents but those at the end that have no kid to come.
func withoutDone(parents []parent) []parent {
	for len(parents) > 0 && parents[len(parents)-1].left == 0 {
		parents = parents[:len(parents)-1]
	}
	return parents
}

// checkNode: the fault of a node by itself, that is a kid of one of this kind, and lies in so many others.
func checkNode(x api.Expr, of, depth int) api.Errno {
	switch {
	case depth > api.MaxNest:
		return api.ErrNest
	case x.Kind == api.KindStruct && x.Kids > api.MaxFields, x.Kind == api.KindUnion && x.Kids > api.MaxArms:
		return api.ErrMany
	case !rightKind(x), !rightName(x.Name, x.Kind == api.KindName), !rightName(x.Label, of == api.KindStruct):
		return api.ErrSource
	case x.Tag != 0 && (of != api.KindUnion || !isNumber(x.Tag)):
		return api.ErrSource
	}
	return api.OK
}

// rightKind: is it a kind, with an N and kids that it may have?
func rightKind(x api.Expr) bool {
	switch x.Kind {
	case api.KindUint:
		return (x.N == 1 || x.N == 2 || x.N == 4 || x.N == 8) && x.Kids == 0
	case api.KindBool, api.KindVarint, api.KindName:
		return x.N == 0 && x.Kids == 0
	case api.KindVector, api.KindList:
		return isNumber(x.N) && x.Kids == 1
	case api.KindOption:
		return x.N == 0 && x.Kids == 1
	case api.KindUnion, api.KindStruct:
		return x.N == 0 && x.Kids > 0
	}
	return false
}

// rightName: a name where one is wanted, and nothing elsewhere.
func rightName(s string, wanted bool) bool {
	if wanted {
		return tokens.Name(s)
	}
	return s == ""
}

// isNumber: may a token be this number?
func isNumber(n int) bool {
	return 0 <= n && n <= api.MaxNumber
}
