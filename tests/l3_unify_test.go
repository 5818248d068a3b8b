package tests

import (
	"math"
	"slices"
	"strings"
	"testing"
	"time"

	"loop.example/prologserver/impl"
)

// formatBinds returns bindings as in "A=g(C) B=C".
func formatBinds(binds []impl.Bind) string {
	texts := make([]string, len(binds))
	for i, b := range binds {
		texts[i] = impl.FormatTerm(variable(b.N)) + "=" + impl.FormatTerm(b.Term)
	}
	return strings.Join(texts, " ")
}

// bindsOf is the inverse of formatBinds.
func bindsOf(t *testing.T, text string) []impl.Bind {
	t.Helper()
	var binds []impl.Bind
	for part := range strings.FieldsSeq(text) {
		name, value, _ := strings.Cut(part, "=")
		binds = append(binds, impl.Bind{N: mustParse(t, name).N, Term: mustParse(t, value)})
	}
	return binds
}

// mustApply returns the term that ApplyBinds returns.
func mustApply(t *testing.T, x impl.Term, binds []impl.Bind) impl.Term {
	t.Helper()
	result, ok := impl.ApplyBinds(x, binds)
	if !ok || !impl.TermValid(result) {
		t.Fatalf("ApplyBinds(%s, %s) = %v, %v", impl.FormatTerm(x), formatBinds(binds), result, ok)
	}
	return result
}

// tuple returns a term of little depth in which all items occur, from the left.
func tuple(items ...impl.Term) impl.Term {
	for len(items) > impl.MaxArity {
		var groups []impl.Term
		for group := range slices.Chunk(items, impl.MaxArity) {
			groups = append(groups, structure("t", group...))
		}
		items = groups
	}
	return structure("t", items...)
}

// checkBinds checks that bindings make a and b equal, that they are in ascending order,
// and that all variables are replaced that stand for terms.
func checkBinds(t *testing.T, a impl.Term, b impl.Term, binds []impl.Bind) {
	t.Helper()
	about := "UnifyTerms(" + impl.FormatTerm(a) + ", " + impl.FormatTerm(b) + ") = " + formatBinds(binds)
	bound := map[int]bool{}
	for i, x := range binds {
		if i > 0 && binds[i-1].N >= x.N {
			t.Fatalf("%s is not in ascending order", about)
		}
		if !impl.TermValid(x.Term) {
			t.Fatalf("%s has a term that is not valid: %v", about, x.Term)
		}
		bound[x.N] = true
	}
	for _, x := range binds {
		for _, v := range impl.TermVars(x.Term) {
			if bound[v] {
				t.Fatalf("%s has a bound variable in a term", about)
			}
		}
	}
	left, right := replaced(a, binds), replaced(b, binds)
	if !impl.TermSame(left, right) {
		t.Fatalf("%s makes of them %v and %v", about, left, right)
	}
}

// replaced does what ApplyBinds does, without limits.
func replaced(x impl.Term, binds []impl.Bind) impl.Term {
	if x.Kind == impl.TermVar {
		for _, b := range binds {
			if b.N == x.N {
				return b.Term
			}
		}
		return x
	}
	y := impl.Term{Kind: x.Kind, N: x.N, Name: x.Name}
	for _, kid := range x.Kids {
		y.Kids = append(y.Kids, replaced(kid, binds))
	}
	return y
}

func TestUnifyTerms(t *testing.T) {
	cases := [][3]string{
		{"A", "A", ""}, {"a", "a", ""}, {"-7", "-7", ""}, {"[]", "[]", ""}, {"f(A,A)", "f(A,A)", ""}, {"f(a,g(B))", "f(a,g(B))", ""},
		{"A", "B", "A=B"}, {"B", "A", "B=A"}, {"Z", "Y", "Z=Y"}, {"A", "1", "A=1"}, {"1", "A", "A=1"}, {"f(B)", "A", "A=f(B)"}, {"A", "f(B)", "A=f(B)"},
		{"f(A,g(B))", "f(g(C),A)", "A=g(C) B=C"}, {"f(A,B)", "f(B,A)", "A=B"}, {"f(B,A)", "f(A,B)", "B=A"}, {"f(A,B)", "f(C,C)", "A=C B=C"}, {"f(C,C)", "f(A,B)", "A=B C=B"},
		{"f(A,1)", "f(B,A)", "A=1 B=1"}, {"f(C,B,A)", "f(1,2,3)", "A=3 B=2 C=1"}, {"f(1,2,3)", "f(C,B,A)", "A=3 B=2 C=1"},
		{"[A|B]", "[1,2,3]", "A=1 B=[2,3]"}, {"[A,B|C]", "[1,2]", "A=1 B=2 C=[]"}, {"[A,B]", "[B,c]", "A=c B=c"}, {"+(A,B)", "+(1,-1)", "A=1 B=-1"},
		{"f(A,B,C)", "f(B,C,D)", "A=D B=D C=D"}, {"f(A,B,C)", "f(B,C,1)", "A=1 B=1 C=1"}, {"f(C,B,A)", "f(1,C,B)", "A=1 B=1 C=1"}, {"f(A,B,C)", "f(g(B),g(C),1)", "A=g(g(1)) B=g(1) C=1"},
		{"f(A,A)", "f(B,g(C))", "A=g(C) B=g(C)"}, {"f(A,g(C))", "f(B,A)", "A=g(C) B=g(C)"}, {"f(A,B,A)", "f(g(B),1,g(C))", "A=g(1) B=1 C=1"}, {"f(g(A),B)", "f(B,g(1))", "A=1 B=g(1)"},
		{"f(A,A,D)", "f(g(B,1),g(2,C),B)", "A=g(2,1) B=2 C=1 D=2"}, {"f(A,B,A,B)", "f(B,C,D,E)", "A=E B=E C=E D=E"},
	}
	for _, c := range cases {
		a, b := mustParse(t, c[0]), mustParse(t, c[1])
		binds, ok := impl.UnifyTerms(a, b)
		if got := formatBinds(binds); !ok || got != c[2] {
			t.Errorf("UnifyTerms(%s, %s) = %s, %v, not %s", c[0], c[1], got, ok, c[2])
		}
		checkBinds(t, a, b, binds)
	}
}

func TestTermsThatCannotBeUnified(t *testing.T) {
	cases := [][2]string{
		{"1", "2"}, {"1", "-1"}, {"0", "a"}, {"a", "b"}, {"a", "a(1)"}, {"a(A)", "a(A,B)"}, {"f(A)", "g(A)"}, {"[]", "[](A)"}, {"-(1)", "-1"}, {"[A]", "[A,B]"}, {"[]", "[A|B]"}, {".(A)", "[A]"},
		{"f(A,A)", "f(1,2)"}, {"f(A,B,A)", "f(B,1,2)"}, {"f(A,b)", "f(1,c)"}, {"f(A,B,C,1)", "f(1,2,3,2)"}, {"f(A,g(A))", "f(1,g(2))"},
		{"A", "f(A)"}, {"f(A)", "A"}, {"A", "f(g(B,[A]))"}, {"f(A)", "f(f(A))"}, {"f(A,A)", "f(B,g(B))"}, {"f(A,B)", "f(B,g(A))"}, {"f(A,B)", "f(g(B),g(A))"}, {"f(B,A)", "f(g(A),g(B))"},
		{"f(A,B,C)", "f(g(B),g(C),g(A))"}, {"f(A,B,C)", "f(B,C,g(A))"}, {"f(A,B,C)", "f(B,C,[a,A])"}, {"f(A,A)", "f(g(B),g(g(B)))"}, {"f(A,B,A)", "f(g(C),g(A),C)"}, {"f(A,A,C)", "f(g(B,1),g(2,C),B)"},
	}
	for _, c := range cases {
		a, b := mustParse(t, c[0]), mustParse(t, c[1])
		for range 2 {
			if binds, ok := impl.UnifyTerms(a, b); ok || len(binds) != 0 {
				t.Errorf("UnifyTerms(%s, %s) = %s, %v", impl.FormatTerm(a), impl.FormatTerm(b), formatBinds(binds), ok)
			}
			a, b = b, a
		}
	}
}

// slowUnifier unifies as the document says it, replacing variables in whole terms again and again.
type slowUnifier struct {
	binds []impl.Bind
}

func (u *slowUnifier) replaceAll(x impl.Term) impl.Term {
	for range u.binds {
		x = replaced(x, u.binds)
	}
	return x
}

func (u *slowUnifier) unify(a impl.Term, b impl.Term) bool {
	a, b = u.replaceAll(a), u.replaceAll(b)
	switch {
	case a.Kind == impl.TermVar && b.Kind == impl.TermVar && a.N == b.N:
		return true
	case a.Kind == impl.TermVar:
		return u.bind(a.N, b)
	case b.Kind == impl.TermVar:
		return u.bind(b.N, a)
	case a.Kind != b.Kind || a.N != b.N || a.Name != b.Name || len(a.Kids) != len(b.Kids):
		return false
	}
	for i := range a.Kids {
		if !u.unify(a.Kids[i], b.Kids[i]) {
			return false
		}
	}
	return true
}

func (u *slowUnifier) bind(n int, x impl.Term) bool {
	if hasVariable(x, n) {
		return false
	}
	u.binds = append(u.binds, impl.Bind{N: n, Term: x})
	return true
}

// hasVariable reports whether a variable occurs in x, which need not be valid.
func hasVariable(x impl.Term, n int) bool {
	if x.Kind == impl.TermVar {
		return x.N == n
	}
	return slices.ContainsFunc(x.Kids, func(kid impl.Term) bool { return hasVariable(kid, n) })
}

// answer returns the bindings as UnifyTerms returns them.
func (u *slowUnifier) answer() []impl.Bind {
	var list []impl.Bind
	for _, b := range u.binds {
		list = append(list, impl.Bind{N: b.N, Term: u.replaceAll(b.Term)})
	}
	slices.SortFunc(list, func(a, b impl.Bind) int { return a.N - b.N })
	return list
}

// TestUnifyTermsStepByStep compares the bindings for many terms with those that slowUnifier finds.
func TestUnifyTermsStepByStep(t *testing.T) {
	parts := mustParseAll(t, "A", "B", "C", "a", "f(A)", "f(B)", "f(C)")
	var terms []impl.Term
	for _, x := range parts {
		for _, y := range parts {
			for _, z := range parts {
				terms = append(terms, structure("h", x, y, z))
			}
		}
	}
	unified := 0
	for _, a := range terms {
		for _, b := range terms {
			var slow slowUnifier
			want := slow.unify(a, b)
			binds, ok := impl.UnifyTerms(a, b)
			if ok != want || ok && formatBinds(binds) != formatBinds(slow.answer()) || !ok && len(binds) != 0 {
				t.Fatalf("UnifyTerms(%s, %s) = %s, %v, not %s, %v", impl.FormatTerm(a), impl.FormatTerm(b), formatBinds(binds), ok, formatBinds(slow.answer()), want)
			}
			if ok {
				unified++
			}
		}
	}
	if unified < 10000 {
		t.Errorf("only %d pairs were unified", unified)
	}
}

// smallTerms returns the terms of two variables and a number with f and g, up to five nodes.
func smallTerms(t *testing.T) []impl.Term {
	leaves := mustParseAll(t, "A", "B", "1")
	sides := slices.Clone(leaves)
	for _, x := range leaves {
		sides = append(sides, structure("f", x))
	}
	terms := slices.Clone(sides)
	for _, x := range leaves {
		terms = append(terms, structure("f", structure("f", x)))
	}
	for _, x := range sides {
		for _, y := range sides {
			terms = append(terms, structure("g", x, y))
		}
	}
	return terms
}

// TestEveryUnifierIsAnInstance tries all replacements of two variables by some terms: each that
// makes two small terms equal must be an instance of what UnifyTerms returns.
func TestEveryUnifierIsAnInstance(t *testing.T) {
	values := mustParseAll(t, "1", "a", "C", "f(1)", "f(C)", "f(f(1))", "g(1,C)", "D")
	terms := smallTerms(t)
	equal := 0
	for _, a := range terms {
		for _, b := range terms {
			binds, ok := impl.UnifyTerms(a, b)
			if ok {
				checkBinds(t, a, b, binds)
			}
			for _, x := range values {
				for _, y := range values {
					other := []impl.Bind{{N: 0, Term: x}, {N: 1, Term: y}}
					if impl.TermSame(replaced(a, other), replaced(b, other)) {
						equal++
						checkInstance(t, a, b, other)
					}
				}
			}
		}
	}
	if equal < 1000 {
		t.Errorf("only %d replacements made terms equal", equal)
	}
}

// checkInstance checks that bindings that make a and b equal do the same to what is bound by unifying them.
func checkInstance(t *testing.T, a impl.Term, b impl.Term, other []impl.Bind) {
	t.Helper()
	binds, ok := impl.UnifyTerms(a, b)
	if !ok {
		t.Fatalf("UnifyTerms(%s, %s) fails, but %s makes them equal", impl.FormatTerm(a), impl.FormatTerm(b), formatBinds(other))
	}
	for _, x := range binds {
		if !impl.TermSame(replaced(variable(x.N), other), replaced(x.Term, other)) {
			t.Fatalf("UnifyTerms(%s, %s) = %s, but %s makes them equal, too", impl.FormatTerm(a), impl.FormatTerm(b), formatBinds(binds), formatBinds(other))
		}
	}
}

// abstract returns a term of which x results when variables are replaced as binds say.
func (s *source) abstract(x impl.Term, binds []impl.Bind) impl.Term {
	for _, b := range binds {
		if s.below(2) == 0 && impl.TermSame(b.Term, x) {
			return variable(b.N)
		}
	}
	y := impl.Term{Kind: x.Kind, N: x.N, Name: x.Name}
	for _, kid := range x.Kids {
		y.Kids = append(y.Kids, s.abstract(kid, binds))
	}
	return y
}

// TestTermsWithAKnownUnifier unifies random terms that some replacement is known to make equal.
func TestTermsWithAKnownUnifier(t *testing.T) {
	s := source{state: 11}
	bound, tried := 0, 0
	for range 20000 {
		known := []impl.Bind{{N: 0, Term: variable(20)}, {N: 1, Term: number(5)}, {N: 2, Term: structure("a")}}
		for n := 3; n < 12; n++ {
			part := func() impl.Term { return known[s.below(n)].Term }
			known = append(known, impl.Bind{N: n, Term: structure("f", part(), part())})
		}
		part := func() impl.Term { return known[s.below(9)].Term }
		common := structure("h", part(), structure("g", part(), part()), part())
		if !impl.TermValid(common) {
			continue
		}
		tried++
		a, b := s.abstract(common, known), s.abstract(common, known)
		binds, ok := impl.UnifyTerms(a, b)
		checkInstance(t, a, b, known)
		checkBinds(t, a, b, binds)
		if ok {
			bound += len(binds)
		}
		if x, y := mustApply(t, a, binds), mustApply(t, b, binds); !impl.TermSame(x, y) || !impl.InstanceOf(common, x) {
			t.Fatalf("%s and %s unified are %s and %s", impl.FormatTerm(a), impl.FormatTerm(b), impl.FormatTerm(x), impl.FormatTerm(y))
		}
	}
	if tried < 10000 || bound < 2*tried {
		t.Errorf("only %d variables were bound by %d pairs", bound, tried)
	}
}

func TestUnifyTermsAtTheLimits(t *testing.T) {
	a, x, y := structure("a"), variable(0), variable(1)
	cases := []struct {
		name        string
		left, right []impl.Term
		want        bool
	}{
		{"120 nodes", []impl.Term{x, y}, []impl.Term{structure("g", y, y, a), bush(59)}, true},
		{"121 nodes", []impl.Term{x, y}, []impl.Term{structure("g", y, y, a, a), bush(59)}, false},
		{"121 nodes, bound the other way round", []impl.Term{bush(59), x}, []impl.Term{y, structure("g", y, y, a, a)}, false},
		{"a depth of 30", []impl.Term{x, y}, []impl.Term{structure("g", y), chain(29)}, true},
		{"a depth of 31", []impl.Term{x, y}, []impl.Term{structure("g", structure("g", y)), chain(29)}, false},
		{"terms that are valid alone", []impl.Term{x, x, x, x}, []impl.Term{bush(37), variable(2), variable(3), variable(4)}, true},
	}
	for _, c := range cases {
		left, right := structure("t", c.left...), structure("t", c.right...)
		if !impl.TermValid(left) || !impl.TermValid(right) {
			t.Fatalf("%s: an argument is not valid", c.name)
		}
		binds, ok := impl.UnifyTerms(left, right)
		if ok != c.want || !ok && len(binds) != 0 {
			t.Errorf("%s: UnifyTerms = %s, %v", c.name, formatBinds(binds), ok)
		}
		checkBinds(t, structure("t"), structure("t"), binds)
	}
	// Each binding is valid, but the terms that become equal would not be.
	left := structure("t", x, x, x, x)
	binds, ok := impl.UnifyTerms(left, structure("t", bush(37), variable(2), variable(3), variable(4)))
	if result, valid := impl.ApplyBinds(left, binds); !ok || len(binds) != 4 || valid || !impl.TermSame(result, impl.Term{}) {
		t.Errorf("UnifyTerms = %s, %v, and ApplyBinds = %v, %v", formatBinds(binds), ok, result, valid)
	}
	if binds, ok := impl.UnifyTerms(x, bush(impl.MaxNodes)); !ok || !impl.TermSame(binds[0].Term, bush(impl.MaxNodes)) {
		t.Error("UnifyTerms refuses a term with 120 nodes")
	}
	if binds, ok := impl.UnifyTerms(chain(impl.MaxDepth), y); !ok || !impl.TermSame(binds[0].Term, chain(impl.MaxDepth)) {
		t.Error("UnifyTerms refuses a term of the depth 30")
	}
}

func TestUnifyTermsWithAllVariables(t *testing.T) {
	var names, before, values []impl.Term
	for n := range impl.MaxVar {
		names = append(names, variable(n))
		before = append(before, variable(n+1))
		values = append(values, number(n))
	}
	binds, ok := impl.UnifyTerms(tuple(names...), tuple(before...))
	if !ok || formatBinds(binds) != strings.Join(strings.Split("ABCDEFGHIJKLMNOPQRSTUVWXY", ""), "=Z ")+"=Z" {
		t.Errorf("UnifyTerms = %s, %v", formatBinds(binds), ok)
	}
	binds, ok = impl.UnifyTerms(tuple(names...), tuple(values...))
	if !ok || len(binds) != impl.MaxVar || binds[24].Term.N != 24 {
		t.Errorf("UnifyTerms = %s, %v", formatBinds(binds), ok)
	}
}

// inTime fails the test if work takes longer than any reasonable way to do it.
func inTime(t *testing.T, work func()) {
	t.Helper()
	done := make(chan bool)
	go func() {
		work()
		close(done)
	}()
	select {
	case <-done:
	case <-time.After(20 * time.Second):
		t.Fatal("this takes too long")
	}
}

// TestTermsThatGrow unifies terms in which each variable stands for a term with the next one in several
// places, so that a variable stands in the end for a term with more nodes than anything can visit.
func TestTermsThatGrow(t *testing.T) {
	four := func(x impl.Term) impl.Term { return structure("f", x, x, x, x) }
	six := func(x impl.Term) impl.Term { return structure("f", x, x, x, structure("g", x, x, x)) }
	var left, right []impl.Term
	for n := range impl.MaxVar {
		left, right = append(left, variable(n)), append(right, four(variable(n+1)))
		if n%2 == 1 {
			left[n], right[n] = right[n], left[n]
		}
	}
	refuses := func(name string) {
		a, b := tuple(left...), tuple(right...)
		if !impl.TermValid(a) || !impl.TermValid(b) {
			t.Fatalf("%s: an argument is not valid", name)
		}
		inTime(t, func() {
			if binds, ok := impl.UnifyTerms(a, b); ok || len(binds) != 0 {
				t.Errorf("%s: UnifyTerms returns %d bindings, %v", name, len(binds), ok)
			}
		})
	}
	refuses("from the first variable on")
	slices.Reverse(left)
	slices.Reverse(right)
	refuses("from the last variable on")
	left, right = append(left, variable(impl.MaxVar)), append(right, structure("f", variable(0)))
	refuses("the last variable in the first one")
	left, right = nil, nil
	for n := range 12 {
		left = append(left, variable(n), six(variable(n+14)))
		right = append(right, six(variable(n+1)), variable(n+13))
	}
	left, right = append(left, variable(0)), append(right, variable(13))
	refuses("two such terms with each other")
}

func TestApplyBinds(t *testing.T) {
	cases := [][3]string{
		{"f(A,B)", "", "f(A,B)"}, {"f(A,B)", "A=1", "f(1,B)"}, {"f(A,B)", "B=A A=B", "f(B,A)"}, {"f(A,B)", "A=B B=A", "f(B,A)"}, {"f(A,B,C)", "A=B B=C C=A", "f(B,C,A)"}, {"f(A,B)", "A=B B=1", "f(B,1)"},
		{"f(A)", "A=g(A)", "f(g(A))"}, {"A", "A=A", "A"}, {"A", "A=f(B,A)", "f(B,A)"}, {"f(A,A)", "A=1 A=2", "f(1,1)"}, {"f(A,B)", "A=B A=2 B=3 B=4", "f(B,3)"}, {"f(A)", "B=1 C=2", "f(A)"},
		{"a", "A=1", "a"}, {"-5", "A=1", "-5"}, {"[A,B|C]", "C=[D] A=[]", "[[],B,D]"}, {"+(A,-(A))", "A=-1", "+(-1,-(-1))"}, {"f(Z)", "Z=Y Y=X", "f(Y)"},
	}
	for _, c := range cases {
		if got := impl.FormatTerm(mustApply(t, mustParse(t, c[0]), bindsOf(t, c[1]))); got != c[2] {
			t.Errorf("ApplyBinds(%s, %s) = %s, not %s", c[0], c[1], got, c[2])
		}
	}
	one := number(1)
	for _, n := range []int{-1, impl.MaxVar, impl.MaxVar + 1, math.MinInt, math.MaxInt} {
		binds := []impl.Bind{{N: n, Term: number(2)}, {N: 0, Term: one}}
		if got := impl.FormatTerm(mustApply(t, mustParse(t, "f(A,B)"), binds)); got != "f(1,B)" {
			t.Errorf("ApplyBinds with a binding of %d = %s", n, got)
		}
	}
	if got := mustApply(t, variable(0), slices.Repeat([]impl.Bind{{N: 0, Term: one}}, 5000)); got.N != 1 {
		t.Errorf("ApplyBinds with many bindings = %v", got)
	}
}

func TestApplyBindsAtTheLimits(t *testing.T) {
	a, x := structure("a"), variable(0)
	cases := []struct {
		name  string
		term  impl.Term
		value impl.Term
		want  bool
	}{
		{"120 nodes", structure("f", x, x, x, structure("g", a)), bush(39), true},
		{"121 nodes", structure("f", x, x, x, structure("g", a, a)), bush(39), false},
		{"a depth of 30", structure("f", x), chain(29), true},
		{"a depth of 31", structure("f", x), chain(30), false},
		{"a depth of 31 in a list", mustParse(t, "[a,A]"), chain(29), false},
		{"many nodes", bushOf(x, 100), bush(impl.MaxNodes), false},
		{"the whole term", x, bush(impl.MaxNodes), true},
	}
	for _, c := range cases {
		result, ok := impl.ApplyBinds(c.term, []impl.Bind{{N: 0, Term: c.value}})
		if ok != c.want || !ok && !impl.TermSame(result, impl.Term{}) || ok && !impl.TermValid(result) {
			t.Errorf("%s: ApplyBinds = %v, %v", c.name, result, ok)
		}
	}
}

// bushOf returns a term in which x occurs this number of times.
func bushOf(x impl.Term, times int) impl.Term {
	return tuple(slices.Repeat([]impl.Term{x}, times)...)
}

func TestVariantTerms(t *testing.T) {
	groups := [][]string{
		{"A", "B", "Z"}, {"a"}, {"b"}, {"1"}, {"-1"}, {"f(A)", "f(Z)"}, {"f(A,B)", "f(B,A)", "f(Z,C)"}, {"f(A,A)", "f(B,B)"}, {"g(A,B)", "g(C,A)"}, {"f(a)"}, {"f(1)"}, {"[A|B]", "[B|A]"}, {"[A|A]", "[C|C]"},
		{"f(A,B,A)", "f(B,A,B)"}, {"f(A,B,B)", "f(B,A,A)"}, {"f(A,B,C)", "f(C,A,B)"}, {"f(A,A,B)", "f(X,X,A)"}, {"f(A,1)"}, {"f(1,A)", "f(1,B)"}, {"f(g(A),h(A,B))", "f(g(B),h(B,A))"}, {"f(g(A),h(B,A))", "f(g(B),h(A,B))"},
	}
	for i, group := range groups {
		for k, other := range groups {
			for _, x := range group {
				for _, y := range other {
					if got := impl.VariantTerms(mustParse(t, x), mustParse(t, y)); got != (i == k) {
						t.Errorf("VariantTerms(%s, %s) = %v", x, y, got)
					}
				}
			}
		}
	}
}

func TestInstanceOf(t *testing.T) {
	cases := []struct {
		special, general string
		there, back      bool
	}{
		{"A", "A", true, true}, {"A", "B", true, true}, {"1", "A", true, false}, {"f(A)", "A", true, false}, {"f(1,A)", "f(B,A)", true, false}, {"f(1,2)", "f(A,A)", false, false}, {"f(1,1)", "f(A,A)", true, false},
		{"f(A,A)", "f(A,B)", true, false}, {"f(B,A)", "f(A,B)", true, true}, {"f(B,B)", "f(A,A)", true, true}, {"f(A,B)", "f(1,B)", false, true}, {"a", "a", true, true}, {"a", "b", false, false}, {"1", "1", true, true}, {"1", "2", false, false},
		{"1", "a", false, false}, {"a", "a(A)", false, false}, {"f(A)", "f(A,B)", false, false}, {"f(g(B),B)", "f(A,B)", true, false}, {"f(g(B),g(B))", "f(A,A)", true, false}, {"f(g(B),g(C))", "f(A,A)", false, false},
		{"f(B,1)", "f(A,A)", false, false}, {"f(A,1)", "f(A,A)", false, false}, {"[1,2|A]", "[A|B]", true, false}, {"[]", "[A|B]", false, false}, {"f(f(A))", "f(A)", true, false}, {"f(A,g(A))", "f(g(B),B)", false, false}, {"f(A,B)", "f(A,g(B))", false, true},
		{"f(B,C,B)", "f(A,B,C)", true, false}, {"f(B,C,A)", "f(A,B,C)", true, true}, {"-1", "-(1)", false, false}, {"+(1,A)", "+(A,1)", false, false},
	}
	for _, c := range cases {
		special, general := mustParse(t, c.special), mustParse(t, c.general)
		if got := impl.InstanceOf(special, general); got != c.there {
			t.Errorf("InstanceOf(%s, %s) = %v", c.special, c.general, got)
		}
		if got := impl.InstanceOf(general, special); got != c.back {
			t.Errorf("InstanceOf(%s, %s) = %v", c.general, c.special, got)
		}
	}
}

// frozen returns x with atoms in the places of variables.
func frozen(x impl.Term) impl.Term {
	var binds []impl.Bind
	for n := range impl.MaxVar + 1 {
		binds = append(binds, impl.Bind{N: n, Term: structure("var" + string(rune('a'+n)))})
	}
	return replaced(x, binds)
}

// TestInstancesOfSmallTerms compares instances and variants with what unifying says of terms whose variables cannot be bound.
func TestInstancesOfSmallTerms(t *testing.T) {
	terms := append(smallTerms(t), mustParseAll(t, "C", "g(B,C)", "g(C,B)", "g(C,C)", "f(C)", "g(f(C),C)", "g(C,f(A))")...)
	for _, x := range terms {
		for _, y := range terms {
			want := (&slowUnifier{}).unify(frozen(x), y)
			if got := impl.InstanceOf(x, y); got != want {
				t.Errorf("InstanceOf(%s, %s) = %v", impl.FormatTerm(x), impl.FormatTerm(y), got)
			}
			want = want && (&slowUnifier{}).unify(frozen(y), x)
			if got := impl.VariantTerms(x, y); got != want {
				t.Errorf("VariantTerms(%s, %s) = %v", impl.FormatTerm(x), impl.FormatTerm(y), got)
			}
		}
	}
}

func TestGeneralize(t *testing.T) {
	cases := [][3]string{
		{"f(1,g(1),2)", "f(B,g(B),2)", "f(A,g(A),2)"}, {"1", "1", "1"}, {"-3", "-3", "-3"}, {"1", "2", "A"}, {"a", "a", "a"}, {"a", "b", "A"}, {"a", "1", "A"}, {"1", "a", "A"}, {"A", "A", "A"}, {"C", "C", "A"}, {"B", "C", "A"}, {"C", "1", "A"},
		{"f(C)", "f(C)", "f(A)"}, {"f(C,B)", "f(C,B)", "f(A,B)"}, {"f(C,C)", "f(C,C)", "f(A,A)"}, {"f(a)", "f(a,b)", "A"}, {"f(a)", "g(a)", "A"}, {"f(a)", "f(b)", "f(A)"}, {"a", "a(1)", "A"}, {"[]", "[a]", "A"}, {"[a]", "[a,b]", "[a|A]"}, {"[a,b]", "[c,b]", "[A,b]"},
		{"f(1,2)", "f(2,1)", "f(A,B)"}, {"f(1,1)", "f(2,2)", "f(A,A)"}, {"f(1,1)", "f(2,3)", "f(A,B)"}, {"f(1,2)", "f(3,3)", "f(A,B)"}, {"f(A,B)", "f(B,A)", "f(A,B)"}, {"f(A,B,A)", "f(B,A,B)", "f(A,B,A)"}, {"f(1,a,1,a)", "f(a,1,a,1)", "f(A,B,A,B)"},
		{"f(g(1),1,2)", "f(g(2),2,1)", "f(g(A),A,B)"}, {"f(g(1),g(1))", "f(h(1),h(1))", "f(A,A)"}, {"f(g(1),g(2))", "f(h(1),h(1))", "f(A,B)"}, {"f(g(A),B)", "f(g(A),A)", "f(g(A),B)"}, {"f(g(C),g(C),C)", "f(1,1,1)", "f(A,A,B)"},
		{"f(h(1,2),[1,2|3])", "f(h(2,2),[2,2|3])", "f(h(A,2),[A,2|3])"}, {"+(1,*(2,A))", "+(3,*(2,4))", "+(A,*(2,B))"}, {"f(A)", "1", "A"}, {"f(0)", "f([])", "f(A)"},
	}
	for _, c := range cases {
		got, ok := impl.Generalize(mustParse(t, c[0]), mustParse(t, c[1]))
		if !ok || impl.FormatTerm(got) != c[2] {
			t.Errorf("Generalize(%s, %s) = %s, %v, not %s", c[0], c[1], impl.FormatTerm(got), ok, c[2])
		}
	}
}

// TestGeneralizeIsMostSpecial checks that both terms are instances of the result, which is an instance of all such terms.
func TestGeneralizeIsMostSpecial(t *testing.T) {
	terms := smallTerms(t)
	for _, x := range terms {
		for _, y := range terms {
			g, ok := impl.Generalize(x, y)
			about := "Generalize(" + impl.FormatTerm(x) + ", " + impl.FormatTerm(y) + ") = " + impl.FormatTerm(g)
			if !ok || !impl.InstanceOf(x, g) || !impl.InstanceOf(y, g) {
				t.Fatalf("%s, %v", about, ok)
			}
			if list, _ := impl.RenumberTerms([]impl.Term{g}); !impl.TermSame(list[0], g) {
				t.Fatalf("%s has variables that are not numbered from 0", about)
			}
			for _, h := range terms {
				if impl.InstanceOf(x, h) && impl.InstanceOf(y, h) && !impl.InstanceOf(g, h) {
					t.Fatalf("%s, but both are instances of %s", about, impl.FormatTerm(h))
				}
			}
		}
	}
}

func TestGeneralizeAtTheLimits(t *testing.T) {
	var numbers []impl.Term
	for n := range impl.MaxVar + 2 {
		numbers = append(numbers, number(n))
	}
	all := impl.MaxVar + 1
	got, ok := impl.Generalize(tuple(numbers[:all]...), bushOf(structure("a"), all))
	if !ok || len(impl.TermVars(got)) != all {
		t.Errorf("Generalize of %d different parts = %v, %v", all, got, ok)
	}
	got, ok = impl.Generalize(tuple(numbers...), bushOf(structure("a"), all+1))
	if ok || !impl.TermSame(got, impl.Term{}) {
		t.Errorf("Generalize of %d different parts = %v, %v", all+1, got, ok)
	}
	repeats := append(slices.Clone(numbers[:all]), numbers[:all]...)
	got, ok = impl.Generalize(tuple(repeats...), bushOf(structure("b"), 2*all))
	if !ok || len(impl.TermVars(got)) != all {
		t.Errorf("Generalize of %d different parts, each twice = %v, %v", all, got, ok)
	}
	for _, x := range []impl.Term{bush(impl.MaxNodes), chain(impl.MaxDepth)} {
		if got, ok := impl.Generalize(x, x); !ok || !impl.TermSame(got, x) {
			t.Errorf("Generalize(x, x) = %v, %v", got, ok)
		}
	}
}

func TestShiftTerm(t *testing.T) {
	cases := []struct {
		text string
		n    int
		want string
	}{
		{"f(A,C)", 2, "f(C,E)"}, {"f(A,C)", 0, "f(A,C)"}, {"f(C,B)", -1, "f(B,A)"}, {"f(A,C)", 23, "f(X,Z)"}, {"A", 25, "Z"}, {"Z", -25, "A"}, {"Z", 0, "Z"}, {"f(Y,[B|Z])", -1, "f(X,[A|Y])"},
		{"f(a,-3,[])", 25, "f(a,-3,[])"}, {"7", -25, "7"}, {"f(A,1,A)", 1, "f(B,1,B)"},
		{"f(A,C)", 24, ""}, {"Z", 1, ""}, {"A", -1, ""}, {"f(B,[1|A])", -1, ""}, {"f(A,Y)", 2, ""}, {"B", 25, ""}, {"Y", -25, ""},
		{"a", 26, ""}, {"a", -26, ""}, {"A", 26, ""}, {"Z", -26, ""}, {"a", math.MaxInt, ""}, {"A", math.MinInt, ""}, {"1", math.MinInt, ""}, {"Z", math.MaxInt, ""},
	}
	for _, c := range cases {
		got, ok := impl.ShiftTerm(mustParse(t, c.text), c.n)
		if ok != (c.want != "") || impl.FormatTerm(got) != c.want || !ok && !impl.TermSame(got, impl.Term{}) {
			t.Errorf("ShiftTerm(%s, %d) = %v, %v, not %q", c.text, c.n, got, ok, c.want)
		}
	}
}

func TestUnificationOfInvalidTerms(t *testing.T) {
	fine, x := structure("a"), variable(0)
	for name, bad := range invalidTerms() {
		for _, other := range []impl.Term{fine, x, bad} {
			for _, pair := range [][2]impl.Term{{bad, other}, {other, bad}} {
				if binds, ok := impl.UnifyTerms(pair[0], pair[1]); ok || len(binds) != 0 {
					t.Errorf("%s: UnifyTerms = %v, %v", name, binds, ok)
				}
				if impl.VariantTerms(pair[0], pair[1]) || impl.InstanceOf(pair[0], pair[1]) {
					t.Errorf("%s: VariantTerms or InstanceOf = true", name)
				}
				if g, ok := impl.Generalize(pair[0], pair[1]); ok || !impl.TermSame(g, impl.Term{}) {
					t.Errorf("%s: Generalize = %v, %v", name, g, ok)
				}
			}
		}
		good := impl.Bind{N: 0, Term: fine}
		for _, binds := range [][]impl.Bind{nil, {good}} {
			if y, ok := impl.ApplyBinds(bad, binds); ok || !impl.TermSame(y, impl.Term{}) {
				t.Errorf("%s: ApplyBinds = %v, %v", name, y, ok)
			}
		}
		// The term counts, even if the variable does not occur or there is a binding before it.
		for _, binds := range [][]impl.Bind{{{N: 0, Term: bad}}, {good, {N: 0, Term: bad}}, {{N: 7, Term: bad}}, {{N: -1, Term: bad}}, {good, {N: 99, Term: bad}}} {
			if y, ok := impl.ApplyBinds(x, binds); ok || !impl.TermSame(y, impl.Term{}) {
				t.Errorf("%s: ApplyBinds = %v, %v with it in a binding", name, y, ok)
			}
		}
		for _, n := range []int{-1, 0, 1} {
			if y, ok := impl.ShiftTerm(bad, n); ok || !impl.TermSame(y, impl.Term{}) {
				t.Errorf("%s: ShiftTerm = %v, %v", name, y, ok)
			}
		}
	}
}

func TestUnificationSharesNoMemory(t *testing.T) {
	a, b := mustParse(t, "h(A,B,g(C),C)"), mustParse(t, "h(g(1),A,B,1)")
	binds, _ := impl.UnifyTerms(a, b)
	value, general := mustParse(t, "g(h(A))"), mustParse(t, "f(A,A)")
	list := []impl.Bind{{N: 0, Term: value}}
	applied, _ := impl.ApplyBinds(general, list)
	left, right := mustParse(t, "f(g(h(1)),g(h(1)),2)"), mustParse(t, "f(g(h(1)),g(h(1)),3)")
	most, _ := impl.Generalize(left, right)
	shifted, _ := impl.ShiftTerm(left, 0)
	if got := formatAll([]impl.Term{a, b, value, general, left, right}); got != "h(A,B,g(C),C) h(g(1),A,B,1) g(h(A)) f(A,A) f(g(h(1)),g(h(1)),2) f(g(h(1)),g(h(1)),3)" {
		t.Errorf("an argument was changed: %s", got)
	}
	overwrite([]impl.Term{a, b, value, general, left, right})
	list[0] = impl.Bind{N: 3}
	if got := formatBinds(binds); got != "A=g(1) B=g(1) C=1" {
		t.Errorf("UnifyTerms shares memory with an argument: %s", got)
	}
	if got := formatAll([]impl.Term{applied, most, shifted}); got != "f(g(h(A)),g(h(A))) f(g(h(1)),g(h(1)),A) f(g(h(1)),g(h(1)),2)" {
		t.Errorf("a result shares memory with an argument: %s", got)
	}
	overwrite(binds[0].Term.Kids)
	overwrite(applied.Kids[0].Kids)
	overwrite(most.Kids[0].Kids)
	overwrite(shifted.Kids[0].Kids)
	if got := formatAll([]impl.Term{binds[1].Term, applied.Kids[1], most.Kids[1], shifted.Kids[1]}); got != "g(1) g(h(A)) g(h(1)) g(h(1))" {
		t.Errorf("parts of a result share memory: %s", got)
	}
}

func TestUnificationChangesNothing(t *testing.T) {
	memory := []impl.Term{variable(1), structure("g", variable(2)), number(7), number(8)}
	x := impl.Term{Kind: impl.TermStruct, Name: "f", Kids: memory[:2]}
	y := impl.Term{Kind: impl.TermStruct, Name: "f", Kids: memory[1:3]}
	binds := []impl.Bind{{N: 1, Term: x}, {N: 1, Term: number(5)}, {N: 2, Term: number(6)}}
	impl.UnifyTerms(x, y)
	impl.UnifyTerms(x, x)
	impl.ApplyBinds(x, binds[:2])
	impl.VariantTerms(x, y)
	impl.InstanceOf(y, x)
	impl.Generalize(x, y)
	impl.ShiftTerm(x, 1)
	if got := formatAll(memory); got != "B g(C) 7 8" {
		t.Errorf("an argument was changed: %s", got)
	}
	if got := formatBinds(binds); got != "B=f(B,g(C)) B=5 C=6" {
		t.Errorf("an argument was changed: %s", got)
	}
}
