package json

import (
	"slices"
	"strings"
)

// With returns the object v with x as the value of the member with the name: in its position, or behind the others.
// A v that is no object has no members, and is returned as it is.
func (v Value) With(name string, x Value) Value {
	out := copyOf(v)
	if v.Kind != Object {
		return out
	}
	i := find(out.Members, name)
	if i < 0 {
		i = len(out.Members)
		out.Members = append(out.Members, Member{Name: strings.Clone(name)})
	}
	out.Members[i].Value = copyOf(x)
	return out
}

// Without returns the object v without the member with the name, and a v that is no object as it is.
func (v Value) Without(name string) Value {
	out := copyOf(v)
	if v.Kind == Object {
		out.Members = slices.DeleteFunc(out.Members, func(m Member) bool { return m.Name == name })
	}
	return out
}

// change is a value that is to become its merge with a patch.
type change struct {
	value *Value
	patch *Value
}

// Merge returns v with a patch (RFC 7396). It keeps a list of changes and does not call itself: values may be deeper
// than the stack allows.
func Merge(v Value, patch Value) Value {
	out := copyOf(v)
	todo := []change{{&out, &patch}}
	for len(todo) > 0 {
		last := len(todo) - 1
		c := todo[last]
		todo = todo[:last]
		if c.patch.Kind != Object {
			*c.value = copyOf(*c.patch)
			continue
		}
		if c.value.Kind != Object {
			*c.value = Value{Kind: Object}
		}
		removeNulls(c)
		todo = append(todo, innerChanges(c)...)
	}
	return out
}

// removeNulls removes the members that are Null in the patch.
func removeNulls(c change) {
	nulls := map[string]struct{}{}
	for _, m := range c.patch.Members {
		if m.Value.Kind == Null {
			nulls[m.Name] = struct{}{}
		}
	}
	c.value.Members = slices.DeleteFunc(c.value.Members, func(m Member) bool {
		_, gone := nulls[m.Name]
		return gone
	})
}

// innerChanges returns the changes of the members that are something else in the patch; those that are not there yet
// are added with a zero value.
func innerChanges(c change) []change {
	places := map[string]int{}
	for i, m := range c.value.Members {
		places[m.Name] = i
	}
	for _, m := range c.patch.Members {
		if _, there := places[m.Name]; !there && m.Value.Kind != Null {
			places[m.Name] = len(c.value.Members)
			c.value.Members = append(c.value.Members, Member{Name: strings.Clone(m.Name)})
		}
	}
	// Not before all are there: to add a member may move the others.
	var inner []change
	for i, m := range c.patch.Members {
		if m.Value.Kind != Null {
			inner = append(inner, change{&c.value.Members[places[m.Name]].Value, &c.patch.Members[i].Value})
		}
	}
	return inner
}

// Alike reports whether a and b are valid and have the same plain text once the members of all objects are sorted.
func Alike(a Value, b Value) bool { return Same(sorted(a), sorted(b)) }

// sorted returns v with the members of all objects in the order of their names.
func sorted(v Value) Value {
	v = copyOf(v)
	for x := range walk(&v, fieldsOf) {
		slices.SortFunc(x.Members, func(a, b Member) int { return strings.Compare(a.Name, b.Name) })
	}
	return v
}
