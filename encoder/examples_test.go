package encoder_test

import (
	"testing"

	"mortise/api"
	"mortise/encoder"
	"mortise/plain"
)

// chapter: the chapter's program P, as its words tell it.
const chapter = "number 0 1; ret; leb; ret; " +
	"list: upto 9; room -; jump more; item: slot -; append 1; more: again item; ret; " +
	"struct: fields 3; room 6; number 0 1; slot 1; append 2; number 5 1; ret | 0 2 list struct"

// P24.2: the worked examples of Run, call by call.
func TestRunExamples(t *testing.T) {
	p := taken(t, chapter)
	for _, x := range []struct {
		t    int
		v    []api.Node
		most int
		want string
		f    api.Fault
	}{
		{0, v(u(7)), 1, "07", ok},
		{0, v(u(7)), 0, "", fault(api.ErrLong, 0)},
		{0, v(u(256)), 9, "", fault(api.ErrValue, 0)},
		{2, nodes(t, "[5, 300]"), 99, "08 00 00 00 09 00 00 00 05 ac 02", ok},
		{2, nodes(t, "[]"), 0, "", ok},
		{2, nodes(t, "[true]"), 0, "", fault(api.ErrKind, 1)},
		{3, nodes(t, "{1, [], 2}"), 99, "01 06 00 00 00 02", ok},
		{3, nodes(t, "{1, [5], 2}"), 99, "01 06 00 00 00 02 04 00 00 00 05", ok},
		{3, nodes(t, "{1, []}"), 99, "", fault(api.ErrItems, 0)},
		{9, v(u(7)), 9, "", fault(api.ErrPlace, 0)},
		{0, nil, 9, "", fault(api.ErrNode, 0)},
	} {
		got, f := encoder.Run(p, x.t, x.v, x.most)
		if f != x.f || string(got) != string(unhex(x.want)) || f != ok && got != nil {
			t.Errorf("P24.2: Run(P, %d, %s, %d) = %s, %v, want %s, %v", x.t, briefValue(x.v), x.most, briefBytes(got), f, x.want, x.f)
		}
	}
}

// P24.3: the worked examples of Steps.
func TestStepsExamples(t *testing.T) {
	p := taken(t, chapter)
	for _, x := range []struct {
		t    int
		v    []api.Node
		most int
		want int
		f    api.Fault
	}{
		{0, v(u(7)), 9, 2, ok},
		{2, nodes(t, "[5, 300]"), 99, 15, ok},
		{2, nodes(t, "[5, 300]"), 11, 15, ok},
		{2, nodes(t, "[5, 300]"), 10, 0, fault(api.ErrLong, 0)},
		{2, nodes(t, "[]"), 0, 5, ok},
		{3, nodes(t, "{1, [], 2}"), 99, 12, ok},
		{9, v(u(7)), 9, 0, fault(api.ErrPlace, 0)},
		{0, nil, 9, 0, fault(api.ErrNode, 0)},
	} {
		if got, f := encoder.Steps(p, x.t, x.v, x.most); f != x.f || got != x.want {
			t.Errorf("P24.3: Steps(P, %d, %s, %d) = %d, %v, want %d, %v", x.t, briefValue(x.v), x.most, got, f, x.want, x.f)
		}
	}
}

// P24.4: the chapter's program is what raise makes of its type; and the other examples of the document's chapters are encoded so.
func TestExamplesOfOtherChapters(t *testing.T) {
	for _, x := range []struct{ of, value, want string }{
		{"struct{a:u8,b:list<varint,9>,c:u8}", "{1, [5], 2}", "01 06 00 00 00 02 04 00 00 00 05"},
		{"struct{a:u8,b:list<u16,9>,c:bool}", "{7, [1, 2], true}", "07 06 00 00 00 01 01 00 02 00"},
		{"vector<varint,2>", "[300, 0]", "08 00 00 00 0a 00 00 00 ac 02 00"},
		{"list<option<u8>,9>", "[none, some 5]", "08 00 00 00 09 00 00 00 00 01 05"},
		{"list<u8,9>", "[]", ""},
		{"union{3:u16,200:list<bool,2>}", "<200:[true]>", "c8 01"},
		{"struct{id:u32,name:list<u8,20>,ok:bool}", "{7, [104, 105], true}", "07000000 09000000 01 6869"},
		{"union{3:u16,200:option<varint>}", "<3:770>", "03 0203"},
		{"union{3:u16,200:option<varint>}", "<200:some 300>", "c8 01 ac02"},
		{"union{3:u16,200:option<varint>}", "<200:none>", "c8 00"},
		{"list<u8,3>", "[5, 6]", "05 06"},
	} {
		schema, n := built(t, x.of)
		is := asModel(t, raised(t, schema), n, nodes(t, x.value))
		if is.fault != ok || string(is.bytes()) != string(unhex(x.want)) {
			t.Errorf("P24.4: of %s %s is %s, %v, want %s", x.of, x.value, briefBytes(is.bytes()), is.fault, x.want)
		}
		if want, f := plain.Encode(schema, n, nodes(t, x.value)); f != ok || string(is.bytes()) != string(want) {
			t.Errorf("P24.4: of %s %s is %s, Encode says %s, %v", x.of, x.value, briefBytes(is.bytes()), briefBytes(want), f)
		}
	}
	schema, n := built(t, "union{3:u16,200:option<varint>}")
	if is := asModel(t, raised(t, schema), n, nodes(t, "<4:1>")); is.fault != fault(api.ErrArm, 0) {
		t.Errorf("P24.4: <4:1> is answered %v", is.fault)
	}
}
