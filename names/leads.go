package names

import (
	"slices"

	"mortise/api"
)

// usesOf: for each definition the numbers of those that it uses, each once.
func usesOf(s api.Source, numbers map[string]int) [][]int {
	uses := make([][]int, len(s.Defs))
	for i, d := range s.Defs {
		met := make([]bool, len(s.Defs))
		for _, x := range d.Type {
			if x.Kind != api.KindName {
				continue
			}
			if n := numbers[x.Name]; !met[n] {
				met[n] = true
				uses[i] = append(uses[i], n)
			}
		}
	}
	return uses
}

// firstInRing: the least definition that leads to itself, or -1. One that only leads into a ring is in none, so each is asked for itself.
func firstInRing(uses [][]int) int {
	for first := range uses {
		met := make([]bool, len(uses))
		var leadsBack func(from int) bool
		leadsBack = func(from int) bool {
			for _, n := range uses[from] {
				if n == first {
					return true
				}
				if met[n] {
					continue
				}
				met[n] = true
				if leadsBack(n) {
					return true
				}
			}
			return false
		}
		if leadsBack(first) {
			return first
		}
	}
	return -1
}

// ordered: all definitions, again and again the least that is not told and uses only those that are.
func ordered(uses [][]int) []int {
	order := make([]int, 0, len(uses))
	told := make([]bool, len(uses))
	isUntold := func(n int) bool { return !told[n] }
	for range uses {
		n := 0
		// There are no rings, so one of those that are left is always ready.
		for told[n] || slices.ContainsFunc(uses[n], isUntold) {
			n++
		}
		told[n] = true
		order = append(order, n)
	}
	return order
}

// depthsOf: each definition's depth. In that order what a definition uses has its depth already.
func depthsOf(s api.Source, numbers map[string]int, order []int) []int {
	depths := make([]int, len(s.Defs))
	for _, i := range order {
		depths[i] = depthOf(s.Defs[i].Type, func(name string) int { return depths[numbers[name]] })
	}
	return depths
}

// depthOf: the depth of an expression, its names' depths being known.
func depthOf(list []api.Expr, named func(name string) int) int {
	parents := parentsOf(list)
	depths := make([]int, len(list))
	// From the last node on, so that a node's kids are done ahead of it.
	for i, x := range slices.Backward(list) {
		if x.Kind == api.KindName {
			depths[i] = named(x.Name)
		}
		depths[i] = max(depths[i], 1)
		if p := parents[i]; p >= 0 {
			depths[p] = max(depths[p], depths[i]+1)
		}
	}
	return depths[0]
}
