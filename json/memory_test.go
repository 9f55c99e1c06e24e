package json_test

import (
	"math"
	"math/rand"
	"runtime/debug"
	"strings"
	"testing"
	"unsafe"

	"klaxon/api"
	"klaxon/json"
)

// span is a piece of memory, and whether it is that of a list.
type span struct {
	from, to uintptr
	isList   bool
}

// spans returns the memory of the lists, with their spare capacity, and of the strings of a value.
func spans(v json.Value) []span {
	var l []span
	add := func(start unsafe.Pointer, size uintptr, isList bool) {
		if size > 0 {
			l = append(l, span{uintptr(start), uintptr(start) + size, isList})
		}
	}
	add(unsafe.Pointer(unsafe.StringData(v.Text)), uintptr(len(v.Text)), false)
	add(unsafe.Pointer(unsafe.SliceData(v.List)), uintptr(cap(v.List))*unsafe.Sizeof(json.Value{}), true)
	add(unsafe.Pointer(unsafe.SliceData(v.Members)), uintptr(cap(v.Members))*unsafe.Sizeof(json.Member{}), true)
	for _, x := range v.List {
		l = append(l, spans(x)...)
	}
	for _, m := range v.Members {
		add(unsafe.Pointer(unsafe.StringData(m.Name)), uintptr(len(m.Name)), false)
		l = append(l, spans(m.Value)...)
	}
	return l
}

func overlap(a, b span) bool { return a.from < b.to && b.from < a.to }

func checkApart(t *testing.T, what string, a, b []span) {
	t.Helper()
	for _, x := range a {
		for _, y := range b {
			if overlap(x, y) {
				t.Errorf("%s: memory is shared", what)
				return
			}
		}
	}
}

// checkNew reports what a result shares with an argument, or with itself.
func checkNew(t *testing.T, what string, result json.Value, arguments ...json.Value) {
	t.Helper()
	own := spans(result)
	for i, x := range own {
		if x.isList {
			checkApart(t, what+" in itself", own[:i], []span{x})
		}
	}
	for _, argument := range arguments {
		checkApart(t, what, own, spans(argument))
	}
}

// roomy returns a copy of v in which all lists have spare capacity, filled with something.
func roomy(v json.Value) json.Value {
	room := make([]json.Value, 0, len(v.List)+3)
	for _, x := range v.List {
		room = append(room, roomy(x))
	}
	more := make([]json.Member, 0, len(v.Members)+3)
	for _, m := range v.Members {
		more = append(more, member(strings.Clone(m.Name), roomy(m.Value)))
	}
	fill(room[len(room):cap(room)], more[len(more):cap(more)])
	v.Text, v.List, v.Members = strings.Clone(v.Text), room, more
	return v
}

var filling = json.Value{Kind: 77, Text: "spare"}

func fill(list []json.Value, members []json.Member) {
	for i := range list {
		list[i] = filling
	}
	for i := range members {
		members[i] = member("spare", filling)
	}
}

// isRoomy reports whether v is a roomy value whose spare capacity has not changed.
func isRoomy(v json.Value) bool {
	for i, x := range v.List[:cap(v.List)] {
		if i < len(v.List) && !isRoomy(x) || i >= len(v.List) && !equal(x, filling) {
			return false
		}
	}
	for i, m := range v.Members[:cap(v.Members)] {
		if i < len(v.Members) && !isRoomy(m.Value) || i >= len(v.Members) && (m.Name != "spare" || !equal(m.Value, filling)) {
			return false
		}
	}
	return cap(v.List) > len(v.List) && cap(v.Members) > len(v.Members)
}

// spoil overwrites all lists of v, with their spare capacity.
func spoil(v json.Value) {
	for _, x := range v.List {
		spoil(x)
	}
	for _, m := range v.Members {
		spoil(m.Value)
	}
	fill(v.List[:cap(v.List)], v.Members[:cap(v.Members)])
}

// changes are the calls that make a value of two others, or of one of them.
var changes = map[string]func(a, b json.Value) json.Value{
	"Get":     func(a, _ json.Value) json.Value { v, _ := a.Get("a"); return v },
	"With":    func(a, b json.Value) json.Value { return a.With("a", b) },
	"With b":  func(a, b json.Value) json.Value { return a.With("ab", b) },
	"Without": func(a, _ json.Value) json.Value { return a.Without("a") },
	"Merge":   json.Merge,
	"List":    func(a, b json.Value) json.Value { return json.List(a, b, a) },
	"List ..": func(a, _ json.Value) json.Value { return json.List(a.List...) },
	"Obj":     func(a, b json.Value) json.Value { return json.Obj(member("x", a), member("y", b), member("z", a)) },
	"Obj ..":  func(a, _ json.Value) json.Value { return json.Obj(a.Members...) },
	"Str":     func(a, _ json.Value) json.Value { return json.Str(a.Text) },
}

// ask makes the calls that make no value.
func ask(a, b json.Value) {
	a.Right()
	a.Depth()
	a.Int()
	json.Print(a)
	json.Pretty(a)
	json.Same(a, b)
	json.Alike(a, b)
}

// Rules, Memory: no call changes an argument or its spare capacity, or keeps it; no result shares memory with an
// argument, with itself, or with another result.
func TestArgumentsAndResults(t *testing.T) {
	random := rand.New(rand.NewSource(10))
	for round := range 2000 {
		first, second := randomValue(random, 4), randomValue(random, 4)
		if all := judgedValues(); round < len(all) {
			first = object(member("a", all[round].v), member("b", array(all[round].v)))
		}
		a, b := roomy(first), roomy(second)
		ask(a, b)
		for what, call := range changes {
			got := call(a, b)
			again := call(a, b)
			if !equal(a, first) || !equal(b, second) || !isRoomy(a) || !isRoomy(b) {
				t.Fatalf("%s changed an argument", what)
			}
			checkNew(t, what, got, a, b, again)
			spoil(got)
			if !equal(a, first) || !equal(b, second) || !equal(again, call(first, second)) {
				t.Errorf("%s: the result is shared", what)
			}
			x, y := roomy(first), roomy(second)
			got = call(x, y)
			spoil(x)
			spoil(y)
			if !equal(got, again) {
				t.Errorf("%s: an argument is kept", what)
			}
		}
	}
}

// Rules, Memory: a value in itself and beside itself comes out in pieces that are apart.
func TestSharedArguments(t *testing.T) {
	shared := array(str("x"), object(member("n", array(number("1")))))
	both := object(member("a", shared), member("b", shared), member("c", array(shared, shared)))
	checkNew(t, "List", json.List(shared, shared, both), both)
	checkNew(t, "Obj", json.Obj(member("a", shared), member("b", shared)), shared)
	checkNew(t, "With", both.With("b", shared), both)
	checkNew(t, "With itself", both.With("b", both), both)
	checkNew(t, "Without", both.Without("b"), both)
	checkNew(t, "Merge", json.Merge(both, both), both)
	checkNew(t, "Merge", json.Merge(number("1"), both), both)
	checkNew(t, "Merge", json.Merge(object(), object(member("d", both), member("e", both))), both)
	v, _ := object(member("a", both)).Get("a")
	checkNew(t, "Get", v, both)
}

// Rules, Memory: Parse neither changes nor keeps the bytes or those behind them, and its values are new.
func TestParsedMemory(t *testing.T) {
	for _, s := range []string{`{"a":[1,-0.5e3,"text",{"name":"value","n":[[],{}]}],"b":"abcdef","é":123456}`, `[12,"ab","ab","",[34],[34]]`, `"abc"`, `-12.5`, `[1,`, `{"a":1,"a":2}`, "\xff", "[[["} {
		room := []byte("<" + s + "0,1]}>>>>>>>>")
		before := string(room)
		b := room[1 : 1+len(s)]
		first, e, at := json.Parse(b, 4)
		second, _, _ := json.Parse(b, 4)
		if string(room) != before {
			t.Errorf("Parse(%q) changed its bytes", s)
		}
		place := span{uintptr(unsafe.Pointer(unsafe.SliceData(room))), uintptr(unsafe.Pointer(unsafe.SliceData(room))) + uintptr(cap(room)), true}
		checkApart(t, "Parse", spans(first), []span{place})
		checkNew(t, "Parse", first, second)
		for i := range room {
			room[i] = '7'
		}
		spoil(first)
		third, e3, at3 := json.Parse([]byte(s), 4)
		if !equal(second, third) || e != e3 || at != at3 {
			t.Errorf("Parse(%q): bytes or values are shared", s)
		}
	}
}

// Rules, Determinism: equal arguments, equal answers, whatever was asked before.
func TestDeterminism(t *testing.T) {
	for range 3 {
		checkParse(t, `{"b":1,"a":[true]}`, object(member("b", number("1")), member("a", array(truth(true)))))
		checkFault(t, `{"a":1,"a":1}`, 1, api.ErrTwice, 7)
		checkFault(t, `[[`, 1, api.ErrDepth, 1)
		checkSyntax(t, `[`, 1)
		checkFault(t, "[\xff", 1, api.ErrText, 1)
		checkText(t, "Merge", json.Merge(definedValue(`{"e":1,"d":2,"c":3}`), definedValue(`{"z":1,"d":null,"y":2,"x":3,"c":4}`)), `{"e":1,"c":4,"z":1,"y":2,"x":3}`)
		checkPretty(t, array(null()), "[\n  null\n]\n")
	}
}

// P1: every call ends and does not panic, whatever the values are.
func TestOddValues(t *testing.T) {
	odd := []json.Value{{Kind: math.MinInt, Yes: true, Text: "\xff", List: []json.Value{{}, {Kind: 9}}, Members: []json.Member{{}, {}, member("\xff", json.Value{Kind: -3})}}}
	for _, j := range judgedValues() {
		odd = append(odd, j.v)
	}
	odd = append(odd, object(member("a", null()), member("a", number("1")), member("a", object()), member("a", object(member("a", null()), member("a", null())))),
		object(member("a", object(member("b", odd[0]))), member("a", object(member("b", null()))), member("b", json.Value{})))
	for _, a := range odd {
		for _, b := range odd {
			ask(a, b)
			for _, call := range changes {
				ask(call(a, b), b)
			}
			for _, name := range []string{"", "a", "\xff"} {
				a.Get(name)
				a.Without(name)
				a.With(name, b)
			}
		}
	}
	if v := array(); json.Merge(v, v).Kind != json.Array {
		t.Error("Merge")
	}
}

// deep returns arrays, or objects, inside each other.
func deep(levels int, inArray bool, v json.Value) json.Value {
	for range levels {
		if inArray {
			v = json.Value{Kind: json.Array, List: []json.Value{v}}
		} else {
			v = json.Value{Kind: json.Object, Members: []json.Member{member("a", v)}}
		}
	}
	return v
}

// P1: values that are far deeper than the stack; none of the calls may go down as deep on it.
func TestDeepValues(t *testing.T) {
	const levels = 100000
	defer debug.SetMaxStack(debug.SetMaxStack(levels * 10))
	for _, inArray := range []bool{true, false} {
		v, other, wrong := deep(levels, inArray, number("1")), deep(levels, inArray, number("2")), deep(levels, inArray, json.Value{})
		if !v.Right() || wrong.Right() || v.Depth() != levels+1 || wrong.Depth() != levels+1 {
			t.Error("Right or Depth of deep values")
		}
		open, closing := "[", "]"
		if !inArray {
			open, closing = `{"a":`, "}"
		}
		if s, e := json.Print(v); e != api.OK || s != strings.Repeat(open, levels)+"1"+strings.Repeat(closing, levels) {
			t.Error("Print of a deep value")
		}
		if _, e := json.Pretty(wrong); e != api.ErrForm {
			t.Error("Pretty of a deep value that is not valid")
		}
		if !json.Same(v, v) || !json.Alike(v, v) || json.Same(v, other) || json.Alike(v, other) || json.Same(wrong, wrong) || json.Alike(wrong, wrong) {
			t.Error("Same or Alike of deep values")
		}
		got, ok := json.Obj(member("x", v)).Get("x")
		if !ok || !json.Same(got, v) || !json.Same(json.List(v), array(v)) {
			t.Error("copies of deep values")
		}
		if !json.Same(json.Merge(v, other), other) || !json.Same(json.Merge(null(), other), other) {
			t.Error("Merge of deep values")
		}
		if x := object(member("a", v), member("b", null())).Without("b").With("c", other); x.Depth() != levels+2 || !x.Right() {
			t.Error("With or Without of deep values")
		}
	}
	if got := json.Merge(deep(levels, false, number("1")), deep(levels, false, null())); got.Depth() != levels {
		t.Errorf("Merge with a deep Null: depth %d", got.Depth())
	}
}

// P6.4, P1: the lines of a deep value.
func TestDeepPretty(t *testing.T) {
	const levels = 2000
	defer debug.SetMaxStack(debug.SetMaxStack(128 << 10))
	var want strings.Builder
	for i := range levels {
		want.WriteString(strings.Repeat("  ", i) + "[\n")
	}
	want.WriteString(strings.Repeat("  ", levels) + "1\n")
	for i := range levels {
		want.WriteString(strings.Repeat("  ", levels-1-i) + "]\n")
	}
	if got, e := json.Pretty(deep(levels, true, number("1"))); e != api.OK || got != want.String() {
		t.Errorf("%d bytes with error %d, not %d", len(got), e, want.Len())
	}
}

// P1: long lists and strings.
func TestLong(t *testing.T) {
	const many = 1 << 18
	l := make([]json.Value, many)
	for i := range l {
		l[i] = truth(true)
	}
	v := array(l...)
	if s, e := json.Print(v); e != api.OK || s != "["+strings.Repeat("true,", many-1)+"true]" {
		t.Error("Print of a long list")
	}
	if v.Depth() != 2 || !json.Alike(v, json.List(l...)) {
		t.Error("a long list")
	}
	for _, part := range []string{"a", "é", "\n", "\x01", `"`, "😀"} {
		s := strings.Repeat(part, many)
		if got, e := json.Print(json.Str(s)); e != api.OK || got != definedQuote(s) {
			t.Errorf("Print of many %q", part)
		}
	}
	if n := number(strings.Repeat("9", many)); !n.Right() {
		t.Error("a long number is not valid")
	}
}
