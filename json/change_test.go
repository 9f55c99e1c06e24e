package json_test

import (
	"fmt"
	"math/rand"
	"slices"
	"strings"
	"testing"

	"klaxon/api"
	"klaxon/json"
)

func checkText(t *testing.T, what string, v json.Value, want string) {
	t.Helper()
	if s, e := json.Print(v); e != api.OK || s != want {
		t.Errorf("%s: got %s with error %d, want %s", what, s, e, want)
	}
}

// P6.5: the first, a middle, the last and no member set.
func TestWith(t *testing.T) {
	v := definedValue(`{"a":1,"b":{"a":2},"c":[3]}`)
	for _, c := range []struct {
		name string
		x    string
		want string
	}{
		{"a", `9`, `{"a":9,"b":{"a":2},"c":[3]}`}, {"b", `[]`, `{"a":1,"b":[],"c":[3]}`}, {"c", `{"c":null}`, `{"a":1,"b":{"a":2},"c":{"c":null}}`}, {"a", "null", `{"a":null,"b":{"a":2},"c":[3]}`},
		{"d", `9`, `{"a":1,"b":{"a":2},"c":[3],"d":9}`}, {"", `{"x":[1]}`, `{"a":1,"b":{"a":2},"c":[3],"":{"x":[1]}}`}, {"A", "null", `{"a":1,"b":{"a":2},"c":[3],"A":null}`}, {"é", `"é"`, `{"a":1,"b":{"a":2},"c":[3],"é":"é"}`}, {"a", "1", `{"a":1,"b":{"a":2},"c":[3]}`},
	} {
		checkText(t, "With "+c.name, v.With(c.name, definedValue(c.x)), c.want)
		checkGet(t, v.With(c.name, definedValue(c.x)), c.name, definedValue(c.x), true)
	}
	checkText(t, "the value itself", v, `{"a":1,"b":{"a":2},"c":[3]}`)
	checkText(t, "With of no members", object().With("a", number("1")), `{"a":1}`)
	checkText(t, "With several times", object().With("b", number("1")).With("a", number("2")).With("b", number("3")).With("c", object()), `{"b":3,"a":2,"c":{}}`)
	checkText(t, "With itself", v.With("b", v), `{"a":1,"b":{"a":1,"b":{"a":2},"c":[3]},"c":[3]}`)
	checkValue(t, "With what is not valid", object(member("a", number("x"))).With("\xff", json.Value{Kind: 9}), object(member("a", number("x")), member("\xff", json.Value{Kind: 9})))
	checkValue(t, "With a zero value", object().With("a", json.Value{}), object(member("a", json.Value{})))
}

// P6.5: the first, a middle, the last and no member removed.
func TestWithout(t *testing.T) {
	v := definedValue(`{"a":1,"b":{"a":2},"c":[3]}`)
	for name, want := range map[string]string{"a": `{"b":{"a":2},"c":[3]}`, "b": `{"a":1,"c":[3]}`, "c": `{"a":1,"b":{"a":2}}`, "d": `{"a":1,"b":{"a":2},"c":[3]}`, "": `{"a":1,"b":{"a":2},"c":[3]}`, "A": `{"a":1,"b":{"a":2},"c":[3]}`} {
		checkText(t, "Without "+name, v.Without(name), want)
		checkGet(t, v.Without(name), name, json.Value{}, false)
	}
	checkText(t, "the value itself", v, `{"a":1,"b":{"a":2},"c":[3]}`)
	checkText(t, "Without all", v.Without("b").Without("a").Without("c"), "{}")
	checkText(t, "Without of no members", object().Without("a"), "{}")
	checkText(t, "Without the only one", object(member("", null())).Without(""), "{}")
	checkText(t, "Without and With", v.Without("a").With("a", number("4")), `{"b":{"a":2},"c":[3],"a":4}`)
	checkValue(t, "Without what is not valid", object(member("\xff", json.Value{Kind: 9}), member("a", number("x"))).Without("\xff"), object(member("a", number("x"))))
}

// What has no members is left as it is.
func TestWithOfOthers(t *testing.T) {
	for _, v := range []json.Value{{}, null(), truth(true), number("1"), str("a"), array(object()), {Kind: 7}} {
		checkValue(t, "With", v.With("a", number("1")), v)
		checkValue(t, "Without", v.Without("a"), v)
	}
}

// P6.5: the examples of RFC 7396 and others, with the order of the members.
func TestMerge(t *testing.T) {
	for _, c := range [][3]string{
		{`{"a":"b"}`, `{"a":"c"}`, `{"a":"c"}`}, {`{"a":"b"}`, `{"b":"c"}`, `{"a":"b","b":"c"}`}, {`{"a":"b"}`, `{"a":null}`, `{}`}, {`{"a":"b","b":"c"}`, `{"a":null}`, `{"b":"c"}`}, {`{"a":["b"]}`, `{"a":"c"}`, `{"a":"c"}`}, {`{"a":"c"}`, `{"a":["b"]}`, `{"a":["b"]}`}, {`{"a":{"b":"c"}}`, `{"a":{"b":"d","c":null}}`, `{"a":{"b":"d"}}`}, {`{"a":[{"b":"c"}]}`, `{"a":[1]}`, `{"a":[1]}`}, {`["a","b"]`, `["c","d"]`, `["c","d"]`}, {`{"a":"b"}`, `["c"]`, `["c"]`}, {`{"a":"foo"}`, `null`, `null`}, {`{"a":"foo"}`, `"bar"`, `"bar"`}, {`{"e":null}`, `{"a":1}`, `{"e":null,"a":1}`}, {`[1,2]`, `{"a":"b","c":null}`, `{"a":"b"}`}, {`{}`, `{"a":{"bb":{"ccc":null}}}`, `{"a":{"bb":{}}}`},
		// values that are no objects
		{`1`, `2`, `2`}, {`1`, `true`, `true`}, {`{"a":1}`, `[]`, `[]`}, {`1`, `{}`, `{}`}, {`null`, `{}`, `{}`}, {`"x"`, `{"a":1}`, `{"a":1}`}, {`[{"a":1}]`, `{"b":2}`, `{"b":2}`}, {`null`, `{"a":null}`, `{}`}, {`{}`, `{}`, `{}`}, {`{"a":1}`, `{}`, `{"a":1}`}, {`{"a":1}`, `[{"a":null}]`, `[{"a":null}]`}, {`{"a":1}`, `false`, `false`},
		// the order of the members
		{`{"a":1,"b":2,"c":3}`, `{"c":4,"a":5}`, `{"a":5,"b":2,"c":4}`}, {`{"a":1,"b":2,"c":3}`, `{"d":1,"b":null,"0":2,"a":0}`, `{"a":0,"c":3,"d":1,"0":2}`}, {`{"a":1,"b":2,"c":3}`, `{"a":null,"b":null,"c":null}`, `{}`}, {`{"a":1,"b":2,"c":3}`, `{"c":null}`, `{"a":1,"b":2}`}, {`{"b":1}`, `{"c":1,"a":2,"b":3}`, `{"b":3,"c":1,"a":2}`}, {`{}`, `{"z":1,"y":2,"x":null,"w":3}`, `{"z":1,"y":2,"w":3}`},
		// with Null, inside each other
		{`{"a":1}`, `{"b":null}`, `{"a":1}`}, {`{"a":{"b":1,"c":2},"d":3}`, `{"a":{"c":null,"e":{"f":null,"g":4}}}`, `{"a":{"b":1,"e":{"g":4}},"d":3}`}, {`{"a":1}`, `{"a":{"b":null,"c":1}}`, `{"a":{"c":1}}`}, {`{"a":{"b":{"c":{"d":1,"e":2}}}}`, `{"a":{"b":{"c":{"d":null}}}}`, `{"a":{"b":{"c":{"e":2}}}}`}, {`{"a":null}`, `{"a":{}}`, `{"a":{}}`}, {`{"a":null}`, `{"a":null}`, `{}`}, {`{"a":{"b":null}}`, `{"a":{"c":1}}`, `{"a":{"b":null,"c":1}}`}, {`{"a":{"b":1}}`, `{"a":{}}`, `{"a":{"b":1}}`}, {`{"a":1}`, `{"a":[null,{"b":null}]}`, `{"a":[null,{"b":null}]}`}, {`{}`, `{"a":[null]}`, `{"a":[null]}`}, {`{"a":[1,2]}`, `{"a":{"0":3}}`, `{"a":{"0":3}}`}, {`{"a":{"x":1},"b":{"x":1}}`, `{"b":{"x":2,"y":3},"a":{"x":null}}`, `{"a":{},"b":{"x":2,"y":3}}`},
	} {
		checkText(t, c[0]+" with "+c[1], json.Merge(definedValue(c[0]), definedValue(c[1])), c[2])
	}
	checkText(t, "a zero value", json.Merge(json.Value{}, definedValue(`{"a":{"b":null}}`)), `{"a":{}}`)
}

// definedMerge works Merge out as the chapter tells it.
func definedMerge(v, patch json.Value) json.Value {
	if patch.Kind != json.Object {
		return patch
	}
	var l []json.Member
	if v.Kind == json.Object {
		l = slices.Clone(v.Members)
	}
	for _, m := range patch.Members {
		at := slices.IndexFunc(l, func(old json.Member) bool { return old.Name == m.Name })
		switch {
		case m.Value.Kind == json.Null && at >= 0:
			l = slices.Delete(l, at, at+1)
		case m.Value.Kind == json.Null:
		case at >= 0:
			l[at].Value = definedMerge(l[at].Value, m.Value)
		default:
			l = append(l, member(m.Name, definedMerge(json.Value{}, m.Value)))
		}
	}
	return object(l...)
}

// P6.5: random values with random patches, by the definition; With and Without as such patches.
func TestMergeRandom(t *testing.T) {
	t.Parallel()
	random := rand.New(rand.NewSource(8))
	objects := 0
	for range 20000 {
		v, patch := randomValue(random, 5), randomValue(random, 5)
		want := definedMerge(v, patch)
		checkText(t, definedPrint(v)+" with "+definedPrint(patch), json.Merge(v, patch), definedPrint(want))
		checkValue(t, "Merge", json.Merge(v, patch), want)
		if v.Kind != json.Object {
			continue
		}
		objects++
		name, x := randomName(random), randomValue(random, 1)
		checkValue(t, "Without", v.Without(name), definedMerge(v, object(member(name, null()))))
		if x.Kind != json.Null {
			checkValue(t, "With", v.With(name, x), definedMerge(v, object(member(name, x))))
		}
	}
	if objects < 1000 {
		t.Errorf("only %d objects", objects)
	}
}

// P6.5: objects in different orders, inside each other; arrays in different orders; values that differ.
func TestAlike(t *testing.T) {
	groups := [][]string{
		{`{"a":1,"b":2,"c":3}`, `{"c":3,"b":2,"a":1}`, `{"b":2,"a":1,"c":3}`}, {`{"a":[{"b":1,"c":2}],"d":3}`, `{"d":3,"a":[{"c":2,"b":1}]}`, `{"a":[{"c":2,"b":1}],"d":3}`}, {`{"d":3,"a":[{"c":1,"b":2}]}`},
		{`[{"a":1,"b":2},{"b":3,"a":4}]`, `[{"b":2,"a":1},{"a":4,"b":3}]`}, {`[{"b":3,"a":4},{"a":1,"b":2}]`}, {`{"x":{"y":{"b":1,"a":2},"z":3}}`, `{"x":{"z":3,"y":{"a":2,"b":1}}}`}, {`{"x":{"y":{"b":1,"a":2}},"z":3}`}, {`{"é":1,"e":2,"z":3,"":4}`, `{"":4,"z":3,"é":1,"e":2}`},
		{"[1,2]"}, {"[2,1]"}, {"[1,2,2]"}, {"[]"}, {"{}"}, {"[{}]"}, {"null"}, {"true"}, {"false"}, {"0"}, {"-0"}, {"0.0"}, {"1"}, {"1.0"}, {"1e0"}, {"1E0"}, {`"1"`}, {`"a"`}, {`"A"`}, {`""`}, {`{"a":1}`}, {`{"a":2}`}, {`{"b":1}`}, {`{"a":1,"b":2}`, `{"b":2,"a":1}`}, {`{"a":2,"b":1}`, `{"b":1,"a":2}`}, {`{"a":1,"b":null}`}, {`{"a":{"a":1}}`}, {`{"a":[1,2]}`}, {`{"a":[2,1]}`},
	}
	for i, group := range groups {
		for j, other := range groups {
			for _, a := range group {
				for _, b := range other {
					if got := json.Alike(definedValue(a), definedValue(b)); got != (i == j) {
						t.Errorf("Alike of %s and %s is %v", a, b, got)
					}
				}
			}
		}
	}
}

// P6.5: random values, alike to themselves with other orders of the members, and to others only if their sorted
// plain texts are the same.
func TestAlikeRandom(t *testing.T) {
	t.Parallel()
	random := rand.New(rand.NewSource(9))
	moved := 0
	for range 5000 {
		v := randomValue(random, 5)
		w := shuffled(random, v)
		if definedPrint(v) != definedPrint(w) {
			moved++
			if json.Same(v, w) {
				t.Errorf("Same of %s and %s", definedPrint(v), definedPrint(w))
			}
		}
		if !json.Alike(v, w) || !json.Alike(w, v) {
			t.Errorf("not Alike: %s and %s", definedPrint(v), definedPrint(w))
		}
		other := randomValue(random, 2)
		if alike := definedPrint(definedSorted(w)) == definedPrint(definedSorted(other)); json.Alike(w, other) != alike {
			t.Errorf("Alike of %s and %s is not %v", definedPrint(w), definedPrint(other), alike)
		}
		if x := array(w); json.Alike(v, x) || json.Alike(x, v) {
			t.Errorf("Alike of %s and a list of it", definedPrint(v))
		}
	}
	if moved < 500 {
		t.Errorf("only %d values with another order", moved)
	}
}

func shuffled(random *rand.Rand, v json.Value) json.Value {
	return reordered(v, func(l []json.Member) {
		random.Shuffle(len(l), func(i, j int) { l[i], l[j] = l[j], l[i] })
	})
}

func definedSorted(v json.Value) json.Value {
	return reordered(v, func(l []json.Member) {
		slices.SortFunc(l, func(a, b json.Member) int { return strings.Compare(a.Name, b.Name) })
	})
}

// reordered returns a copy of v in which the members of each object have been put in an order.
func reordered(v json.Value, order func([]json.Member)) json.Value {
	v.List, v.Members = slices.Clone(v.List), slices.Clone(v.Members)
	order(v.Members)
	for i := range v.List {
		v.List[i] = reordered(v.List[i], order)
	}
	for i := range v.Members {
		v.Members[i].Value = reordered(v.Members[i].Value, order)
	}
	return v
}

// P6.5, P1: objects of many members are changed in no more than a little time.
func TestManyMembers(t *testing.T) {
	t.Parallel()
	const many = 200000
	var all, later, nulls []json.Member
	for i := range many {
		all = append(all, member(fmt.Sprint("n", i), number("1")))
		later = append(later, member(fmt.Sprint("n", i+many/2), number("2")))
		nulls = append(nulls, member(fmt.Sprint("n", i), null()))
	}
	got := json.Merge(object(all...), object(later...))
	if len(got.Members) != many*3/2 || got.Members[many/2-1].Value.Text != "1" || got.Members[many/2].Value.Text != "2" || got.Members[many].Name != fmt.Sprint("n", many) {
		t.Errorf("Merge of many members: %d", len(got.Members))
	}
	if got := json.Merge(got, object(nulls...)); len(got.Members) != many/2 || got.Members[0].Name != fmt.Sprint("n", many) {
		t.Errorf("Merge with many Nulls: %d", len(got.Members))
	}
	slices.Reverse(all)
	if v := object(all...); !v.Right() || !json.Alike(v, definedSorted(v)) || v.Depth() != 2 || len(v.Without("n7").Members) != many-1 || json.Same(v, definedSorted(v)) {
		t.Error("an object of many members")
	}
	if v := object(append(all, member("n5", null()))...); v.Right() {
		t.Error("many members with a name twice are valid")
	}
}
