package impl

import (
	"slices"
	"testing"
)

// TestFailedUnificationIsTakenBack unifies again and again with the same bindings.
func TestFailedUnificationIsTakenBack(t *testing.T) {
	read := func(text string) node {
		x, ok := ParseTerm(text)
		n, valid := nodeOf(x)
		if !ok || !valid {
			t.Fatalf("%q is not a term", text)
		}
		return n
	}
	u := newUnifier()
	left, right := read("g(B,B)"), read("g(C,C)")
	steps := []struct {
		a, b  node
		ok    bool
		trail []variable
	}{
		{read("f(A)"), read("f(1)"), true, []variable{0}},
		{read("f(B,C,D)"), read("f(2,3,f(D))"), false, []variable{0}},
		{structure{name: "f", kids: []node{left, read("1")}}, structure{name: "f", kids: []node{right, read("2")}}, false, []variable{0}},
		{left, right, true, []variable{0, 1}},
		{read("f(C,A)"), read("f(4,2)"), false, []variable{0, 1}},
		{read("f(C,A)"), read("f(4,1)"), true, []variable{0, 1, 2}},
	}
	for i, step := range steps {
		if ok := u.unify(step.a, step.b); ok != step.ok || !slices.Equal(u.trail, step.trail) || len(u.binds) != len(step.trail) {
			t.Fatalf("step %d: unify = %v with the trail %v and %d bindings", i, ok, u.trail, len(u.binds))
		}
	}
	binds, ok := u.bindings()
	if !ok || len(binds) != 3 || FormatTerm(binds[0].Term) != "1" || FormatTerm(binds[1].Term) != "4" || FormatTerm(binds[2].Term) != "4" {
		t.Errorf("bindings = %v, %v", binds, ok)
	}
}
