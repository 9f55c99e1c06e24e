package json_test

import (
	"math"
	"math/rand"
	"strconv"
	"strings"
	"testing"

	"klaxon/api"
	"klaxon/json"
)

// judged is a value, with what Right and Depth are to say of it.
type judged struct {
	v     json.Value
	right bool
	depth int
}

// judgedValues are values of each kind and of none, with fields that belong there and that do not.
func judgedValues() []judged {
	one := number("1")
	lists := []json.Value{array(), array(one), array(array()), array(array(one)), array(one, array(array()), one)}
	l := []judged{
		{null(), true, 1}, {truth(true), true, 1}, {truth(false), true, 1}, {one, true, 1}, {number("-0.5e3"), true, 1}, {str(""), true, 1}, {str("é\x00\"\\"), true, 1}, {str("\ufffd"), true, 1},
		{array(), true, 1}, {object(), true, 1}, {json.Value{Kind: json.Array, List: []json.Value{}, Members: []json.Member{}}, true, 1}, {json.Value{Kind: json.Null, List: []json.Value{}, Members: []json.Member{}}, true, 1}, {json.Value{Kind: json.Object, List: []json.Value{}}, true, 1},
		{array(one), true, 2}, {array(array()), true, 2}, {array(array(one)), true, 3}, {array(one, array(), array(array(), one), one), true, 3}, {array(array(array()), one), true, 3}, {array(one, array(array())), true, 3},
		{object(member("a", one)), true, 2}, {object(member("", object())), true, 2}, {object(member("a", one), member("A", array(object(member("a", one)))), member("aa", null())), true, 4}, {array(one, one, one), true, 2}, {object(member("é", str("é")), member("\x00", null())), true, 2},
		// unknown kinds
		{json.Value{}, false, 1}, {json.Value{Kind: 7}, false, 1}, {json.Value{Kind: -1}, false, 1}, {json.Value{Kind: math.MaxInt}, false, 1}, {json.Value{Kind: math.MinInt}, false, 1}, {json.Value{Kind: 7, Text: "1"}, false, 1}, {json.Value{Yes: true}, false, 1}, {json.Value{Kind: 7, List: []json.Value{array(one)}}, false, 1}, {json.Value{Members: []json.Member{member("a", one)}}, false, 1}, {json.Value{Kind: 1<<32 + 1}, false, 1},
		// texts, names and numbers that are not valid
		{number(""), false, 1}, {number("01"), false, 1}, {number("1 "), false, 1}, {number(" 1"), false, 1}, {number("+1"), false, 1}, {number("1."), false, 1}, {number(".5"), false, 1}, {number("1e"), false, 1}, {number("-"), false, 1}, {number("null"), false, 1}, {number("1\xff"), false, 1}, {number("1\x00"), false, 1}, {number("１"), false, 1}, {number("0x1"), false, 1}, {number("1,2"), false, 1},
		{str("\xff"), false, 1}, {str("a\xc3"), false, 1}, {str("\xed\xa0\x80"), false, 1}, {str("\xc0\x80"), false, 1}, {str("\xf4\x90\x80\x80"), false, 1}, {object(member("\xff", one)), false, 2}, {object(member("a", one), member("\x80", one)), false, 2},
		// names that are the same
		{object(member("a", one), member("a", one)), false, 2}, {object(member("", one), member("", one)), false, 2}, {object(member("a", one), member("b", one), member("a", null())), false, 2}, {object(member("a", one), member("b", one), member("b", array())), false, 2}, {object(member("a", object(member("a", one))), member("b", object(member("a", one)))), true, 3},
	}
	// fields that do not belong to the kind
	for kind := json.Null; kind <= json.Object; kind++ {
		sound := json.Value{Kind: kind}
		if kind == json.Number {
			sound.Text = "1"
		}
		yes, said, listed, membered := sound, sound, sound, sound
		yes.Yes, said.Text, listed.List, membered.Members = true, "1", []json.Value{one}, []json.Member{member("a", one)}
		l = append(l, judged{sound, true, 1}, judged{yes, kind == json.Truth, 1}, judged{said, kind == json.Number || kind == json.String, 1})
		listDepth, memberDepth := 1, 1
		if kind == json.Array {
			listDepth = 2
		}
		if kind == json.Object {
			memberDepth = 2
		}
		l = append(l, judged{listed, kind == json.Array, listDepth}, judged{membered, kind == json.Object, memberDepth})
		if kind == json.Object {
			listed.List, listed.Members = lists, []json.Member{member("a", one)}
			l = append(l, judged{listed, false, 2})
		}
		if kind == json.Array {
			membered.List, membered.Members = []json.Value{one}, []json.Member{member("a", array(array(array())))}
			l = append(l, judged{membered, false, 2})
		}
	}
	return l
}

// surrounded returns the values, alone and inside of others.
func surrounded() []judged {
	var all []judged
	one := number("1")
	for _, j := range judgedValues() {
		all = append(all, j,
			judged{array(j.v), j.right, j.depth + 1}, judged{array(one, j.v, one), j.right, j.depth + 1}, judged{array(j.v, one), j.right, j.depth + 1}, judged{array(one, j.v), j.right, j.depth + 1},
			judged{object(member("a", j.v)), j.right, j.depth + 1}, judged{object(member("a", one), member("b", j.v), member("c", one)), j.right, j.depth + 1},
			judged{array(object(member("a", array(j.v)))), j.right, j.depth + 3}, judged{object(member("a", array(array(), object(member("b", j.v))))), j.right, j.depth + 3},
			judged{array(json.Value{}, j.v), false, j.depth + 1}, judged{object(member("a", j.v), member("a", j.v)), false, j.depth + 1})
	}
	return all
}

// P6.2, P6.4, P6.5: Right and Depth; what is not valid is not printed, and is not the same as anything.
func TestRightAndDepth(t *testing.T) {
	for _, j := range surrounded() {
		if j.v.Right() != j.right {
			t.Errorf("%+v: Right is not %v", j.v, j.right)
		}
		if got := j.v.Depth(); got != j.depth {
			t.Errorf("%+v: Depth is %d, not %d", j.v, got, j.depth)
		}
		if json.Same(j.v, j.v) != j.right || json.Alike(j.v, j.v) != j.right {
			t.Errorf("%+v: Same and Alike with itself are not %v", j.v, j.right)
		}
		if j.right {
			checkPrint(t, j.v, definedPrint(j.v))
			checkPretty(t, j.v, definedPretty(j.v))
			checkParse(t, definedPrint(j.v), j.v)
			continue
		}
		if s, e := json.Print(j.v); s != "" || e != api.ErrForm {
			t.Errorf("Print(%+v): %q with error %d", j.v, s, e)
		}
		if s, e := json.Pretty(j.v); s != "" || e != api.ErrForm {
			t.Errorf("Pretty(%+v): %q with error %d", j.v, s, e)
		}
		for _, other := range []json.Value{null(), array(), object(), {}} {
			if json.Same(j.v, other) || json.Same(other, j.v) || json.Alike(j.v, other) || json.Alike(other, j.v) {
				t.Errorf("%+v is the same as %+v", j.v, other)
			}
		}
	}
}

// P6.2: the plain texts of values, written out.
func TestPrint(t *testing.T) {
	for _, c := range []struct {
		v    json.Value
		want string
	}{
		{null(), "null"}, {truth(true), "true"}, {truth(false), "false"}, {number("-0"), "-0"}, {number("1.50E+07"), "1.50E+07"}, {number("100000000000000000000000"), "100000000000000000000000"},
		{str(""), `""`}, {str("a b"), `"a b"`}, {str(`"`), `"\""`}, {str(`\`), `"\\"`}, {str("/"), `"/"`}, {str("\b\f\n\r\t"), `"\b\f\n\r\t"`}, {str("\x00\x01\x0b\x0e\x1b\x1f"), `"\u0000\u0001\u000b\u000e\u001b\u001f"`},
		{str("\x7f\u0080é\u2028\u2029€😀"), "\"\x7f\u0080é\u2028\u2029€😀\""}, {str("<&>'"), `"<&>'"`}, {str(`\u0041`), `"\\u0041"`},
		{array(), "[]"}, {array(null()), "[null]"}, {array(number("1"), array(), str("x")), `[1,[],"x"]`}, {object(), "{}"}, {object(member("", object())), `{"":{}}`},
		{object(member("b", number("1")), member("a", array(truth(true), object(member("\"\n", null()))))), `{"b":1,"a":[true,{"\"\n":null}]}`},
	} {
		checkPrint(t, c.v, c.want)
		checkParse(t, c.want, c.v)
	}
	for b := range 0x80 {
		s := string(rune(b))
		checkPrint(t, str(s), definedQuote(s))
		checkPrint(t, object(member(s, str("a"+s+"b"))), "{"+definedQuote(s)+":"+definedQuote("a"+s+"b")+"}")
		checkParse(t, definedQuote(s), str(s))
	}
}

// P6.4: texts on lines, written out: empty and other arrays and objects inside each other.
func TestPretty(t *testing.T) {
	for _, c := range []struct{ s, want string }{
		{"null", "null\n"}, {"true", "true\n"}, {"-1.5E3", "-1.5E3\n"}, {`"a\n"`, "\"a\\n\"\n"}, {`"[1,{}]"`, "\"[1,{}]\"\n"}, {"[]", "[]\n"}, {"{}", "{}\n"},
		{"[1]", "[\n  1\n]\n"}, {"[1,2]", "[\n  1,\n  2\n]\n"}, {"[[]]", "[\n  []\n]\n"}, {"[{}]", "[\n  {}\n]\n"}, {"[[],{}]", "[\n  [],\n  {}\n]\n"}, {"[[[]]]", "[\n  [\n    []\n  ]\n]\n"}, {"[[1],[]]", "[\n  [\n    1\n  ],\n  []\n]\n"},
		{`{"a":1}`, "{\n  \"a\": 1\n}\n"}, {`{"a":{}}`, "{\n  \"a\": {}\n}\n"}, {`{"a":[]}`, "{\n  \"a\": []\n}\n"}, {`{"a":{"b":[]},"":[{}]}`, "{\n  \"a\": {\n    \"b\": []\n  },\n  \"\": [\n    {}\n  ]\n}\n"},
		{`{"a":[1,{"b":2,"c":[true,"x"]}],"d":null}`, "{\n  \"a\": [\n    1,\n    {\n      \"b\": 2,\n      \"c\": [\n        true,\n        \"x\"\n      ]\n    }\n  ],\n  \"d\": null\n}\n"}, {`{"a,:[":","}`, "{\n  \"a,:[\": \",\"\n}\n"},
	} {
		v := definedValue(c.s)
		checkPretty(t, v, c.want)
		checkPrint(t, v, c.s)
		checkParse(t, c.want, v)
	}
}

// P6.2, P6.4: random values are printed as defined, and read again.
func TestRandomValues(t *testing.T) {
	t.Parallel()
	random := rand.New(rand.NewSource(7))
	for range 5000 {
		v := randomValue(random, 6)
		if !v.Right() {
			t.Errorf("%+v is not valid", v)
		}
		checkPrint(t, v, definedPrint(v))
		checkPretty(t, v, definedPretty(v))
		checkParse(t, definedPrint(v), v)
		checkParse(t, definedPretty(v), v)
		if !json.Same(v, v) || !json.Same(v, definedValue(definedPrint(v))) {
			t.Errorf("%+v is not the same as itself", v)
		}
		w := randomValue(random, 3)
		if same := definedPrint(v) == definedPrint(w); json.Same(v, w) != same {
			t.Errorf("Same(%+v, %+v) is not %v", v, w, same)
		}
	}
}

// P6.2: values with the same plain text, and with others.
func TestSame(t *testing.T) {
	texts := []string{
		"null", "true", "false", "0", "-0", "0.0", "0e0", "0E0", "1", "1.0", "1e0", "10", `""`, `"0"`, `"null"`, `"a"`, `"A"`, `"é"`, `"e\u0301"`, "[]", "{}", "[[]]", "[{}]", "[null]", "[1,2]", "[2,1]", "[1,2,2]", "[[1],2]", "[[1,2]]",
		`{"a":1}`, `{"a":2}`, `{"b":1}`, `{"a":1,"b":2}`, `{"b":2,"a":1}`, `{"a":2,"b":1}`, `{"a":{"a":1}}`, `{"a":{"b":1,"c":2}}`, `{"a":{"c":2,"b":1}}`, `[{"a":1,"b":2}]`, `[{"b":2,"a":1}]`,
	}
	for i, a := range texts {
		for j, b := range texts {
			if got := json.Same(definedValue(a), definedValue(b)); got != (i == j) {
				t.Errorf("Same of %s and %s is %v", a, b, got)
			}
		}
	}
	if !json.Same(definedValue(`"A\/"`), definedValue(`"\u0041/"`)) || !json.Same(definedValue(" [ 1 ] "), definedValue("[1]")) {
		t.Error("Same depends on how a text was written")
	}
	empty, none := json.Value{Kind: json.Array, List: []json.Value{}}, json.Value{Kind: json.Array}
	if !json.Same(empty, none) || !json.Alike(none, empty) {
		t.Error("an empty list is not the same as none")
	}
}

func checkGet(t *testing.T, v json.Value, name string, want json.Value, there bool) {
	t.Helper()
	if got, ok := v.Get(name); ok != there || !equal(got, want) {
		t.Errorf("Get(%q) of %+v: got %+v, %v, want %+v, %v", name, v, got, ok, want, there)
	}
}

// P6.3: the first, a later and no member, and other kinds.
func TestGet(t *testing.T) {
	v := object(member("a", number("1")), member("b", array(str("x"), object())), member("", null()), member("é", object(member("z", truth(true)))), member("a", number("2")), member("\xff", str("\xff")), member("last", json.Value{}))
	checkGet(t, v, "a", number("1"), true)
	checkGet(t, v, "b", array(str("x"), object()), true)
	checkGet(t, v, "", null(), true)
	checkGet(t, v, "é", object(member("z", truth(true))), true)
	checkGet(t, v, "\xff", str("\xff"), true)
	checkGet(t, v, "last", json.Value{}, true)
	for _, name := range []string{"c", "A", "z", "ab", "las", "\xc3", "\x00", "1"} {
		checkGet(t, v, name, json.Value{}, false)
	}
	for _, name := range []string{"", "a", "1", "0"} {
		for _, other := range []json.Value{{}, null(), truth(true), number("1"), str("a"), array(v), object(), {Kind: json.Array, Members: v.Members}, {Kind: json.String, Text: "a", Members: v.Members}, {Members: v.Members}, {Kind: 7, Members: v.Members}} {
			checkGet(t, other, name, json.Value{}, false)
		}
	}
}

func checkInt(t *testing.T, v json.Value, want int, there bool) {
	t.Helper()
	if got, ok := v.Int(); got != want || ok != there {
		t.Errorf("Int of %+v: got %d, %v, want %d, %v", v, got, ok, want, there)
	}
}

// P6.3: integers at and beside the bounds, and what is none.
func TestInt(t *testing.T) {
	const bound = 1 << 53
	for _, n := range []int{0, 1, -1, 7, 10, -10, 123456789, math.MaxInt32, math.MinInt32, 1 << 40, bound - 1, bound, -bound + 1, -bound} {
		checkInt(t, number(strconv.Itoa(n)), n, true)
	}
	checkInt(t, number("-0"), 0, true)
	checkInt(t, number("9007199254740992"), bound, true)
	checkInt(t, number("-9007199254740992"), -bound, true)
	for _, s := range []string{
		"9007199254740993", "-9007199254740993", "9007199254740994", "90071992547409920", "10000000000000000", "-10000000000000000", "9223372036854775807", "9223372036854775808", "-9223372036854775808", "-9223372036854775809", "18446744073709551616", "18446744073709551617", "-18446744073709551615", "36893488147419103233",
		"1" + strings.Repeat("0", 30), "-1" + strings.Repeat("0", 30), strings.Repeat("9", 10000), "-" + strings.Repeat("9", 10000),
		"0.0", "1.0", "-1.0", "1.5", "1e0", "1E0", "1e2", "10e-1", "0e0", "-0.0", "1E+1", "9007199254740992.0",
		"", "01", "-01", "00", "-", "--1", "+1", "1 ", " 1", "1_0", "0x1", "1a", "a", "١", "null",
	} {
		checkInt(t, number(s), 0, false)
	}
	for _, v := range []json.Value{{}, null(), truth(true), str("1"), array(number("1")), object(member("1", number("1"))), {Text: "1"}, {Kind: 7, Text: "1"}, {Kind: json.Array, Text: "1"}} {
		checkInt(t, v, 0, false)
	}
}

func checkValue(t *testing.T, what string, got, want json.Value) {
	t.Helper()
	if !equal(got, want) {
		t.Errorf("%s: got %+v, want %+v", what, got, want)
	}
}

// P6.3: what is made of strings, integers, truths, and of none, one and several values and members.
func TestMade(t *testing.T) {
	for _, s := range []string{"", "a", "é\n\"", "\xff", "\x00", "1", strings.Repeat("long", 100000)} {
		checkValue(t, "Str", json.Str(s), str(s))
	}
	for n, want := range map[int]string{0: "0", 1: "1", -1: "-1", 9: "9", 10: "10", -10: "-10", 99: "99", 100: "100", 1234567890: "1234567890", math.MaxInt: "9223372036854775807", math.MinInt: "-9223372036854775808", 1 << 53: "9007199254740992", -1 << 53: "-9007199254740992"} {
		checkValue(t, "Num", json.Num(n), number(want))
		if !json.Num(n).Right() {
			t.Errorf("Num(%d) is not valid", n)
		}
	}
	for n := -1100; n <= 1100; n++ {
		checkInt(t, json.Num(n), n, true)
	}
	checkInt(t, json.Num(math.MinInt), 0, false)
	checkInt(t, json.Num(1<<53+1), 0, false)
	checkValue(t, "Bool", json.Bool(true), truth(true))
	checkValue(t, "Bool", json.Bool(false), truth(false))
	one, odd := number("1"), json.Value{Kind: 9, Yes: true, Text: "\xff", List: []json.Value{null()}, Members: []json.Member{member("a", null())}}
	checkValue(t, "List", json.List(), array())
	checkValue(t, "List", json.List(nil...), array())
	checkValue(t, "List", json.List(one), array(one))
	checkValue(t, "List", json.List(one, array(), odd, one, json.Value{}), array(one, array(), odd, one, json.Value{}))
	checkValue(t, "Obj", json.Obj(), object())
	checkValue(t, "Obj", json.Obj(nil...), object())
	checkValue(t, "Obj", json.Obj(member("a", one)), object(member("a", one)))
	checkValue(t, "Obj", json.Obj(member("b", one), member("a", odd), member("b", null()), member("\xff", array(one))), object(member("b", one), member("a", odd), member("b", null()), member("\xff", array(one))))
	checkPrint(t, json.Obj(member("a", json.Num(-5)), member("b", json.List(json.Bool(true), json.Str("x"), json.Obj()))), `{"a":-5,"b":[true,"x",{}]}`)
}
