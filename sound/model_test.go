package sound_test

import (
	"maps"
	"slices"
	"strconv"
	"testing"

	"mortise/api"
	"mortise/code"
	"mortise/sound"
)

// sure: a state of the model, in the chapter's words. The decoder's: place empty, seq, struct, one, full; the encoder's: wants, left, seq.
type sure struct {
	place string
	kids  [64]bool
	table string // 0, 1, .. or many
	parts int
	free  string
	left  int
	sure  bool
}

// tableOf, sizeOf: a number of positions as a word, and back.
func tableOf(n int) string { return strconv.Itoa(n) }
func sizeOf(s sure) int    { n, _ := strconv.Atoi(s.table); return n }

// filled: the chapter's 'to fill a kid'.
func filled(s sure, k int) (sure, bool) {
	free := s.free
	s.free = "nothing"
	switch {
	case k == -1 && s.place == "empty", k == -1 && s.place == "one", k == 0 && s.place == "one":
		s.place = "full"
		return s, true
	case k == -1 && s.place == "seq" && (free == "anything" || free == "kid"):
		return s, true
	case k >= 0 && s.place == "struct" && !s.kids[k]:
		s.kids[k] = true
		return s, true
	}
	return s, false
}

// took: the chapter's 'to take a kid'.
func took(s sure) (sure, bool) {
	switch {
	case s.place == "wants":
		return sure{place: "left"}, true
	case s.place == "left":
		return sure{place: "left", left: s.left - 1}, s.left > 0
	}
	return s, false
}

// tookByTurns: the chapter's 'to take one by turns'.
func tookByTurns(s sure) (sure, bool) {
	is := s.place == "seq" && s.sure
	s.sure = false
	return s, is
}

// wayList: the table of section 'Where an instruction may go on'.
func wayList(p api.Program, at int) (out []int) {
	i := p.Code[at]
	switch nameOf(i.Op) {
	case "jump":
		return []int{i.B}
	case "ret":
		return nil
	case "union", "choice":
		for k := 1; k <= i.A; k++ {
			out = append(out, p.Code[at+k].B)
		}
		return out
	case "option", "first", "slots", "item", "less", "parts", "maybe", "again":
		return []int{at + 1, i.B}
	}
	return []int{at + 1}
}

// stand: can the instruction stand in the state, in a routine of that type? And what it hands on, way by way.
func stand(p api.Program, at int, s sure, routine int) (can bool, out []sure) {
	if p.Encodes {
		return standEncoder(p.Code[at], s, routine)
	}
	return standDecoder(p.Code[at], s, routine)
}

func standDecoder(i api.Instr, s sure, routine int) (can bool, out []sure) {
	free := s.free
	as := s
	as.free = "nothing"
	with := func(place, free string) sure {
		x := as
		x.place, x.free, x.kids = place, free, [64]bool{}
		return x
	}
	finds := func(free string) sure { x := as; x.free = free; return x }
	many := as
	many.table = "many"
	switch nameOf(i.Op) {
	case "uint", "bool", "varint":
		x, can := filled(s, i.A)
		return can, []sure{x}
	case "uints":
		can := s.place == "struct"
		x := as
		for k := i.A; k < i.A+i.B; k++ {
			y, is := filled(x, k)
			if !is {
				return false, []sure{x}
			}
			x = y
		}
		return can, []sure{x}
	case "seq":
		return s.place == "empty", []sure{with("seq", "anything")}
	case "struct":
		return s.place == "empty", []sure{with("struct", "nothing")}
	case "option":
		return s.place == "empty", []sure{with("one", "nothing"), with("full", "nothing")}
	case "union":
		return s.place == "empty", slices.Repeat([]sure{with("one", "nothing")}, i.A)
	case "offset":
		if s.place == "struct" {
			x := as
			x.table = tableOf(sizeOf(s) + 1)
			return s.parts == 0 && sizeOf(s) < 64, []sure{x}
		}
		return s.place == "seq" && (free == "anything" && i.A <= 4194304 || free == "slot"), []sure{many}
	case "first":
		return s.place == "seq" && s.table == tableOf(0), []sure{many, as}
	case "slots":
		return s.place == "seq" && s.table == "many", []sure{as, finds("slot")}
	case "item":
		return s.place == "seq", []sure{finds("kid"), as}
	case "less":
		return s.place == "seq", []sure{as, finds("kid")}
	case "parts":
		return s.place == "seq" && s.table == "many", []sure{as, finds("part")}
	case "call":
		x, can := filled(s, i.A)
		return can && i.C < routine, []sure{x}
	case "part":
		if i.A == -1 {
			return s.place == "seq" && free == "part" && i.C < routine, []sure{as}
		}
		x, can := filled(s, i.A)
		x.parts++
		return can && s.place == "struct" && i.B == s.parts && i.B < sizeOf(s) && i.C < routine, []sure{x}
	case "tail":
		if i.A == -1 {
			return s.place == "seq" && s.table == "many", []sure{as}
		}
		return s.place == "struct" && i.A < s.parts, []sure{as}
	case "jump":
		return true, []sure{s}
	case "ret":
		gap := slices.Index(s.kids[:], false)
		whole := gap != 0 && (gap < 0 || !slices.Contains(s.kids[gap:], true))
		return s.place == "full" || s.place == "seq" || s.place == "struct" && whole, nil
	}
	return false, nil
}

func standEncoder(i api.Instr, s sure, routine int) (can bool, out []sure) {
	left := func(n int) sure { return sure{place: "left", left: n} }
	switch nameOf(i.Op) {
	case "number", "flag":
		x, can := took(s)
		if i.A == -1 {
			x, can = tookByTurns(s)
		}
		return can, []sure{x}
	case "numbers":
		if s.place != "left" {
			return false, []sure{s}
		}
		return s.left >= i.B, []sure{left(s.left - i.B)}
	case "leb":
		x, can := took(s)
		return can, []sure{x}
	case "many":
		return s.place == "wants", []sure{{place: "seq", sure: true}}
	case "upto":
		return s.place == "wants", []sure{{place: "seq"}}
	case "fields":
		return s.place == "wants", []sure{left(i.A)}
	case "maybe":
		return s.place == "wants", []sure{left(1), left(0)}
	case "choice":
		return s.place == "wants", slices.Repeat([]sure{left(1)}, i.A)
	case "room":
		return s.place == "seq" || i.A != -1 && s.place == "left", []sure{s}
	case "slot":
		return i.A == -1 && s.place == "seq" && s.sure || i.A >= 0 && s.place == "left", []sure{s}
	case "enter":
		x, can := took(s)
		return can && i.C < routine, []sure{x}
	case "each":
		x, can := tookByTurns(s)
		return can && i.C < routine, []sure{x}
	case "append":
		x, can := took(s)
		if s.place == "seq" {
			x, can = tookByTurns(s)
		}
		return can && i.C < routine, []sure{x}
	case "again":
		return s.place == "seq", []sure{left(0), {place: "seq", sure: true}}
	case "jump":
		return true, []sure{s}
	case "ret":
		return s == left(0), nil
	}
	return false, nil
}

// gaveUp: what the model's looks panic with.
type gaveUp int

// looked: the model's first look: the states by the instructions' numbers.
func looked(p api.Program) map[int]sure {
	has, done := map[int]sure{}, map[int]bool{}
	hand := func(at int, s sure, routine int) {
		own, is := has[at]
		if !is {
			has[at] = s
			return
		}
		can, out := stand(p, at, s, routine)
		_, ownOut := stand(p, at, own, routine)
		if own != s && !(can && slices.Equal(out, ownOut)) {
			panic(gaveUp(at))
		}
	}
	for routine, entry := range p.Entry {
		begin := sure{place: "empty", table: tableOf(0), free: "nothing"}
		if p.Encodes {
			begin = sure{place: "wants"}
		}
		hand(entry, begin, routine)
		for {
			at := -1
			for k := range has {
				if !done[k] && (at < 0 || k < at) {
					at = k
				}
			}
			if at < 0 {
				break
			}
			done[at] = true
			can, out := stand(p, at, has[at], routine)
			ways := wayList(p, at)
			if !can || slices.Contains(ways, len(p.Code)) {
				panic(gaveUp(at))
			}
			for k, w := range ways {
				hand(w, out[k], routine)
			}
		}
	}
	return has
}

// ledTo: what ways lead to from an instruction, one at least; only those that leave says may be left so.
func ledTo(p api.Program, from int, leave func(at, way int) bool) map[int]bool {
	out := map[int]bool{}
	work := []int{from}
	for len(work) > 0 {
		at := work[0]
		work = work[1:]
		for k, w := range wayList(p, at) {
			if leave(at, k) && !out[w] {
				out[w] = true
				work = append(work, w)
			}
		}
	}
	return out
}

// takes: does an instruction take, when it is left by that way?
func takes(p api.Program, at, way int, pays []bool) bool {
	i := p.Code[at]
	switch nameOf(i.Op) {
	case "uint", "uints", "bool", "varint", "option", "union", "offset":
		return true
	case "number", "numbers", "flag", "leb", "many", "upto", "fields", "maybe", "choice", "enter", "each", "append":
		return true
	case "first":
		return way == 0
	case "call":
		return pays[i.C]
	case "part":
		return i.A == -1
	}
	return false
}

// payers: of each type, whether it pays.
func payers(p api.Program) (pays []bool) {
	for _, entry := range p.Entry {
		quiet := ledTo(p, entry, func(at, way int) bool {
			i := p.Code[at]
			return nameOf(i.Op) == "part" && i.A == -1 || !takes(p, at, way, pays)
		})
		pays = append(pays, !slices.ContainsFunc(slices.Collect(maps.Keys(quiet)), func(at int) bool { return nameOf(p.Code[at].Op) == "ret" }))
	}
	return pays
}

// lookedAgain: the model's second look.
func lookedAgain(p api.Program) {
	var pays []bool
	if !p.Encodes {
		pays = payers(p)
	}
	bare := func(from int) map[int]bool {
		return ledTo(p, from, func(at, way int) bool { return !takes(p, at, way, pays) })
	}
	idle := func(at int) bool { return nameOf(p.Code[at].Op) == "call" && !pays[p.Code[at].C] }
	for _, entry := range p.Entry {
		in := ledTo(p, entry, func(int, int) bool { return true })
		in[entry] = true
		early := bare(entry)
		early[entry] = true
		for _, x := range slices.Collect(maps.Keys(in)) {
			if idle(x) {
				maps.Copy(early, bare(x))
			}
		}
		for _, at := range slices.Sorted(maps.Keys(in)) {
			if bare(at)[at] || idle(at) && early[at] {
				panic(gaveUp(at))
			}
		}
	}
}

// modelOf: what Verify and Shape must answer of a program that has its form.
func modelOf(p api.Program) (shape []int, f api.Fault) {
	defer func() {
		if x := recover(); x != nil {
			shape, f = nil, bad(int(x.(gaveUp)))
		}
	}()
	states := looked(p)
	lookedAgain(p)
	for at := range p.Code {
		s, has := states[at]
		switch {
		case !has:
			shape = append(shape, -1)
		case s.place == "empty", s.place == "wants":
			shape = append(shape, 0)
		case s.place == "full":
			shape = append(shape, 1)
		case s.place == "left":
			shape = append(shape, 1+s.left)
		case p.Encodes:
			shape = append(shape, 66)
		default:
			shape = append(shape, 2+len(slices.DeleteFunc(slices.Clone(s.kids[:]), func(is bool) bool { return !is })))
		}
	}
	return shape, ok
}

// modelAll holds both calls against the model, or against code.Check's fault; the fault.
func modelAll(t *testing.T, p api.Program) api.Fault {
	t.Helper()
	want := code.Check(p)
	var shape []int
	if want == ok {
		shape, want = modelOf(p)
	}
	f := sound.Verify(p)
	l, g := sound.Shape(p)
	if f != want || g != want || !slices.Equal(l, shape) || want != ok && l != nil {
		t.Fatalf("P15.2, P15.3: of %s: Verify %v, Shape %v %v, want %v %v", brief(p), f, l, g, want, shape)
	}
	return want
}
