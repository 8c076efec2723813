package types

import (
	"slices"

	"mortise/api"
	"mortise/tokens"
)

// Check: may it be a schema? The type at fault.
func Check(s api.Schema) api.Fault {
	for i, t := range s.Types {
		if !isType(t, i) {
			return api.Fault{Err: api.ErrSchema, At: i}
		}
	}
	if i := firstTooDeep(s.Types); i >= 0 {
		return api.Fault{Err: api.ErrDeep, At: i}
	}
	for i := range s.Roots {
		if !isRoot(s, i) {
			return api.Fault{Err: api.ErrSchema, At: len(s.Types) + i}
		}
	}
	return api.Fault{}
}

// isType: may it be the type of that number?
func isType(t api.Type, number int) bool {
	return rightNumber(t) && rightElem(t, number) && rightParts(t, number)
}

// rightNumber: is it a kind, with an N that it may have?
func rightNumber(t api.Type) bool {
	switch t.Kind {
	case api.KindUint:
		return t.N == 1 || t.N == 2 || t.N == 4 || t.N == 8
	case api.KindVector, api.KindList:
		return isCount(t.N)
	case api.KindBool, api.KindVarint, api.KindOption, api.KindUnion, api.KindStruct:
		return t.N == 0
	}
	return false
}

// rightElem: one of the types ahead where one is wanted, and 0 elsewhere.
func rightElem(t api.Type, number int) bool {
	if hasElem(t.Kind) {
		return isBelow(t.Elem, number)
	}
	return t.Elem == 0
}

// hasElem: is a type of this kind made of one other?
func hasElem(kind int) bool {
	return kind == api.KindVector || kind == api.KindList || kind == api.KindOption
}

// isBelow: is it a number from 0 on below another one?
func isBelow(n, end int) bool {
	return 0 <= n && n < end
}

// rightParts: fields of a struct, arms of a union, and nothing elsewhere.
func rightParts(t api.Type, number int) bool {
	most, right := api.MaxFields, isField
	switch t.Kind {
	case api.KindStruct:
	case api.KindUnion:
		most, right = api.MaxArms, isArm
	default:
		return len(t.Parts) == 0
	}
	if len(t.Parts) == 0 || len(t.Parts) > most {
		return false
	}
	for i, p := range t.Parts {
		if !right(p) || isThere(t.Parts[:i], p) || !isBelow(p.Type, number) {
			return false
		}
	}
	return true
}

func isField(p api.Part) bool {
	return tokens.Name(p.Label) && p.Tag == 0
}

func isArm(p api.Part) bool {
	return p.Label == "" && 0 <= p.Tag && p.Tag <= maxTag
}

// isThere: is a part of that label and tag among these? Fields have no tags and arms no labels, so both are held against each other in either.
func isThere(parts []api.Part, p api.Part) bool {
	return slices.ContainsFunc(parts, func(q api.Part) bool {
		return q.Label == p.Label && q.Tag == p.Tag
	})
}

// firstTooDeep: the first type that is deeper than may be, or -1. Each is made of types ahead of it, whose depths are known then.
func firstTooDeep(types []api.Type) int {
	depths := make([]int, len(types))
	for i, t := range types {
		if hasElem(t.Kind) {
			depths[i] = depths[t.Elem]
		}
		for _, p := range t.Parts {
			depths[i] = max(depths[i], depths[p.Type])
		}
		depths[i]++
		if depths[i] > api.MaxDepth {
			return i
		}
	}
	return -1
}

// isRoot: may the root of that number be one, behind those ahead of it?
func isRoot(s api.Schema, number int) bool {
	r := s.Roots[number]
	if number >= api.MaxDefs || !tokens.Name(r.Name) || !isBelow(r.Type, len(s.Types)) {
		return false
	}
	first, _ := Find(s, r.Name)
	return first == number
}
