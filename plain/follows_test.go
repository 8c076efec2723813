package plain_test

import (
	"bytes"
	"slices"
	"testing"

	"mortise/api"
	"mortise/plain"
	"mortise/value"
)

// holders: a type of each kind that holds the one of that number, at each place that matters; 0 is a uint, 5 a varint.
func holders(i int) []api.Type {
	return []api.Type{vector(1, i), vector(2, i), list(1, i), list(3, i), option(i), union(i), union(5, i), structure(i), structure(0, i), structure(i, 0), structure(5, i), structure(i, 5), structure(i, 0, i)}
}

// spoilt: bytes that come of others by a change at a place: cut off there, a byte set otherwise, left out, put in.
func spoilt(b []byte, at int) [][]byte {
	out := [][]byte{b[:at], slices.Concat(b[:at], []byte{0}, b[at:]), slices.Concat(b[:at], []byte{1}, b[at:])}
	if at == len(b) {
		return append(out, append(slices.Clone(b), 0xff), append(slices.Clone(b), 1, 2, 3, 4, 5))
	}
	out = append(out, slices.Concat(b[:at], b[at+1:]))
	for _, c := range []byte{0, 1, 2, 4, 0x7f, 0x80, 0xff, b[at] + 1, b[at] - 1, b[at] + 4, b[at] - 4} {
		if c != b[at] {
			out = append(out, slices.Concat(b[:at], []byte{c}, b[at+1:]))
		}
	}
	return out
}

// around: a value's bytes, all their beginnings, and so many of what comes of them by a change at each place.
func around(t *testing.T, d *dice, s api.Schema, i int, v []api.Node, most int) {
	t.Helper()
	b := bothWays(t, s, i, v)
	for at := range len(b) + 1 {
		if f := plain.Prefix(s, i, b[:at]); f != (api.Fault{}) {
			t.Errorf("P12.7: Prefix(%s, %d, %s) = %v, though they begin %s", brief(s), i, brief(b[:at]), f, brief(b))
		}
		decodesAll(t, s, i, b[:at])
		others := spoilt(b, at)
		for k := range min(most, len(others)) {
			if most < len(others) {
				k = d.below(len(others))
			}
			w, f := decodesAll(t, s, i, others[k])
			if f.Err == api.OK && slices.Equal(v, w) && !bytes.Equal(b, others[k]) {
				t.Errorf("P12.6: %s of %s, %d is %s, and %s too", brief(v), brief(s), i, brief(b), brief(others[k]))
			}
		}
	}
}

// P12.2 to P12.6: every kind of type, alone, and within every other kind.
func TestEachInEach(t *testing.T) {
	d := dice(31)
	for i := range kinds() {
		s := schema(kinds()...)
		for range 4 {
			around(t, &d, s, i, valueOf(&d, s, i, 100), 99)
		}
		for _, outer := range holders(i) {
			s.Types = append(s.Types[:15], outer)
			for range 2 {
				around(t, &d, s, 15, valueOf(&d, s, 15, 1000), 99)
			}
		}
	}
}

// P12.2 to P12.6: every kind within every other one within every other one.
func TestEachInEachInEach(t *testing.T) {
	d := dice(32)
	for i := range kinds() {
		s := schema(kinds()...)
		for _, inner := range holders(i) {
			s.Types = append(s.Types[:15], inner)
			for _, outer := range holders(15) {
				s.Types = append(s.Types[:16], outer)
				around(t, &d, s, 16, valueOf(&d, s, 16, 1000), 1)
			}
		}
	}
}

// P12.2 to P12.6: types that look like chance.
func TestChance(t *testing.T) {
	d := dice(33)
	asked := 0
	for n := range 1500 {
		s := chance(&d, 1+n%25, 3)
		i := len(s.Types) - 1
		if v := valueOf(&d, s, i, 60); v != nil {
			asked++
			around(t, &d, s, i, v, 2)
		}
	}
	if asked < 1000 {
		t.Errorf("only %d values were asked for", asked)
	}
}

// P12.3, P12.4: bytes that look like chance; every error that bytes can give is among the answers.
func TestChanceBytes(t *testing.T) {
	d := dice(34)
	seen := map[api.Errno]int{}
	for n := range 3000 {
		s := chance(&d, 1+n%15, 3)
		for i := range s.Types {
			_, f := decodesAll(t, s, i, d.bytes(d.below(20)))
			seen[f.Err]++
		}
	}
	for _, e := range []api.Errno{api.OK, api.ErrShort, api.ErrForm, api.ErrBool, api.ErrCount, api.ErrOffset, api.ErrTag, api.ErrTail} {
		if seen[e] < 20 {
			t.Errorf("error %d was answered only %d times", e, seen[e])
		}
	}
}

// forest: all bytes of an alphabet up to a length, each behind its beginnings.
type forest struct {
	t        *testing.T
	s        api.Schema
	i        int
	alphabet []byte
	length   int
	asked    int
	values   map[string]string // by text: the bytes
}

// down asks for bytes that begin with some of which Prefix has answered a fault.
func (w *forest) down(b []byte, front api.Fault) {
	w.asked++
	v, f := decodesAll(w.t, w.s, w.i, b)
	g := plain.Prefix(w.s, w.i, b)
	if front.Err != api.OK && (f != front || g != front) {
		w.t.Errorf("P12.7: %s, %d: Prefix(%s) = %v, Decode %v, of a beginning it was %v", brief(w.s), w.i, brief(b), g, f, front)
	}
	if f.Err == api.OK {
		text, _ := value.Print(v)
		if other, there := w.values[text]; there {
			w.t.Errorf("P12.6: %s, %d: both % x and % x are %s", brief(w.s), w.i, b, other, text)
		}
		w.values[text] = string(b)
	}
	// Behind an error nothing new comes: two bytes more are enough.
	if len(b) == w.length || front.Err != api.OK && len(b) > front.At+2 {
		return
	}
	for _, c := range w.alphabet {
		w.down(append(slices.Clip(b), c), g)
	}
}

// P12.3 to P12.7: all bytes of small alphabets: how many values they are, no two the same; an error stays.
func TestAllSmallBytes(t *testing.T) {
	all := make([]byte, 256)
	for c := range all {
		all[c] = byte(c)
	}
	for _, c := range []struct {
		of       string
		alphabet []byte
		length   int
		values   int
	}{
		{"bool", all, 2, 2}, {"u8", all, 2, 256}, {"option<bool>", all, 2, 3}, {"union{200:bool,7:u8}", all, 2, 258}, {"varint", all, 2, 128 + 128*127}, {"list<u8,1>", all, 2, 257},
		{"varint", []byte{0, 1, 2, 0x80, 0xff}, 6, 2*1 + 1 + 2*2 + 2*4 + 2*8 + 2*16 + 2*32},
		{"list<bool,2>", []byte{0, 1, 2}, 4, 7}, {"list<u16,2>", []byte{0, 1}, 6, 1 + 4 + 16}, {"vector<bool,3>", []byte{0, 1, 2}, 5, 8}, {"option<list<bool,1>>", []byte{0, 1, 2}, 4, 4}, {"union{0:bool,1:option<bool>,2:list<bool,1>}", []byte{0, 1, 2, 3}, 5, 2 + 3 + 3},
		{"struct{a:bool,b:list<bool,1>}", []byte{0, 1, 2, 5}, 8, 6}, {"struct{a:list<bool,1>,b:bool}", []byte{0, 1, 2, 5}, 8, 6}, {"struct{a:list<bool,1>,b:list<bool,1>}", []byte{0, 1, 8, 9}, 12, 9}, {"struct{a:option<bool>,b:list<bool,1>}", []byte{0, 1, 8, 9, 10}, 12, 9},
		{"vector<list<bool,1>,2>", []byte{0, 1, 8, 9, 10}, 11, 9}, {"list<option<bool>,2>", []byte{0, 1, 4, 8, 9, 10}, 12, 1 + 3 + 9}, {"list<list<bool,1>,2>", []byte{0, 1, 4, 8, 9, 12}, 11, 1 + 3 + 9}, {"vector<struct{a:bool,b:list<bool,1>},1>", []byte{0, 1, 4, 5}, 11, 6},
	} {
		t.Run(c.of, func(t *testing.T) {
			t.Parallel()
			s, last := built(t, c.of)
			w := forest{t: t, s: s, i: last, alphabet: c.alphabet, length: c.length, values: map[string]string{}}
			w.down(nil, api.Fault{})
			if len(w.values) != c.values {
				t.Errorf("P12.3: %d bytes of %s were asked for, and were %d values; there are %d", w.asked, c.of, len(w.values), c.values)
			}
		})
	}
}

// P12.5: there and back: the value of its bytes, and the bytes of their value.
func TestThereAndBack(t *testing.T) {
	d := dice(35)
	there, back := 0, 0
	for n := range 2000 {
		s := chance(&d, 1+n%30, 4)
		i := len(s.Types) - 1
		if v := valueOf(&d, s, i, 500); v != nil {
			there++
			b, f := plain.Encode(s, i, v)
			w, g := plain.Decode(s, i, b)
			if f != (api.Fault{}) || g != (api.Fault{}) || !slices.Equal(v, w) {
				t.Errorf("P12.5: %s of %s is %s, %v, and these %s, %v", brief(v), brief(s), brief(b), f, brief(w), g)
			}
		}
		for range 20 {
			b := d.bytes(d.below(9))
			v, f := plain.Decode(s, i, b)
			if f.Err != api.OK {
				continue
			}
			back++
			if c, g := plain.Encode(s, i, v); g != (api.Fault{}) || !bytes.Equal(b, c) {
				t.Errorf("P12.5: %s of %s are %s, and this %s, %v", brief(b), brief(s), brief(v), brief(c), g)
			}
		}
	}
	if there < 1000 || back < 500 {
		t.Errorf("only %d values and %d bytes were asked for", there, back)
	}
}

// P12.6: neither a proper beginning nor anything longer is the same value.
func TestNoOthers(t *testing.T) {
	d := dice(36)
	for n := range 600 {
		s := chance(&d, 1+n%20, 3)
		i := len(s.Types) - 1
		v := valueOf(&d, s, i, 60)
		if v == nil {
			continue
		}
		b, _ := plain.Encode(s, i, v)
		others := [][]byte{append(slices.Clone(b), 0), append(slices.Clone(b), 1), append(slices.Clone(b), b...)}
		for at := range b {
			others = append(others, b[:at])
		}
		for _, other := range others {
			if w, f := plain.Decode(s, i, other); f.Err == api.OK && slices.Equal(v, w) && !bytes.Equal(b, other) {
				t.Errorf("P12.6: %s of %s is %s, and %s too", brief(v), brief(s), brief(b), brief(other))
			}
		}
	}
}

// P12.7: an error of a beginning is that of all that begin with it, and of Decode; OK leaves a value, or ErrShort at the end.
func TestFronts(t *testing.T) {
	d := dice(37)
	errors := map[api.Errno]int{}
	for n := range 1500 {
		s := chance(&d, 1+n%20, 3)
		i := len(s.Types) - 1
		b := d.bytes(d.below(30))
		if v := valueOf(&d, s, i, 60); v != nil && n%3 > 0 {
			right, _ := plain.Encode(s, i, v)
			at := d.below(len(right) + 1)
			others := spoilt(right, at)
			b = others[d.below(len(others))]
		}
		var front api.Fault
		for at := range len(b) + 1 {
			f := plain.Prefix(s, i, b[:at])
			if front.Err != api.OK && f != front {
				t.Errorf("P12.7: %s: Prefix(%s) = %v, of a beginning it was %v", brief(s), brief(b[:at]), f, front)
			}
			front = f
			v, g := plain.Decode(s, i, b[:at])
			if f.Err != api.OK && g != f || f.Err == api.OK && g.Err != api.OK && g != fault(api.ErrShort, at) || (g.Err == api.OK) != (v != nil) {
				t.Errorf("P12.7: %s: Prefix(%s) = %v, Decode %s, %v", brief(s), brief(b[:at]), f, brief(v), g)
			}
		}
		errors[front.Err]++
		if front.Err == api.OK {
			continue
		}
		for range 5 {
			longer := append(slices.Clone(b), d.bytes(1+d.below(9))...)
			_, g := plain.Decode(s, i, longer)
			if f := plain.Prefix(s, i, longer); f != front || g != front {
				t.Errorf("P12.7: %s: Prefix(%s) = %v, Decode %v, of a beginning it was %v", brief(s), brief(longer), f, g, front)
			}
		}
	}
	for _, e := range []api.Errno{api.OK, api.ErrShort, api.ErrForm, api.ErrBool, api.ErrCount, api.ErrOffset, api.ErrTag, api.ErrTail} {
		if errors[e] == 0 {
			t.Errorf("Prefix never answered error %d", e)
		}
	}
}
