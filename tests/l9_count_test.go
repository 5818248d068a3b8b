package tests

import (
	"slices"
	"testing"

	"loop.example/prologserver/impl"
)

// countRow is a query with what its execution uses, and its end.
type countRow struct {
	query                         string
	goals, instrs, choices, backs int
	end                           string
}

// checkCounts checks what executions use without limits that matter.
func checkCounts(t *testing.T, program string, rows []countRow) {
	t.Helper()
	p := programOf(t, program)
	for _, row := range rows {
		checkCount(t, p, impl.MaxAnswers, impl.MaxFuel, row)
	}
}

func checkCount(t *testing.T, p []impl.Clause, most int, fuel int, row countRow) {
	t.Helper()
	want := impl.Counts{Goals: row.goals, Instrs: row.instrs, Choices: row.choices, Backs: row.backs}
	got, end := impl.CountCode(p, mustQuery(t, row.query), most, fuel)
	if got != want || endName(end) != row.end {
		t.Errorf("CountCode(%s, %d, %d) = %+v, %s, not %+v, %s", row.query, most, fuel, got, endName(end), want, row.end)
	}
}

func TestCountCode(t *testing.T) {
	checkCounts(t, "p(1).\np(2).", []countRow{
		{"p(A),A>1", 3, 13, 1, 1, "no"}, {"p(A)", 1, 8, 1, 1, "no"}, {"p(A),p(B)", 3, 22, 2, 3, "no"}, {"p(A),fail", 3, 8, 1, 1, "no"},
		// The key of the other clause excludes it, and no instruction of it is executed.
		{"p(1)", 1, 5, 0, 0, "no"}, {"p(2)", 1, 5, 0, 0, "no"}, {"p(3)", 1, 2, 0, 0, "no"}, {"p(f(1))", 1, 4, 0, 0, "no"}, {"p(1),p(2)", 2, 9, 0, 0, "no"}, {"p(1),p(3)", 2, 6, 0, 0, "no"},
		{"true", 1, 2, 0, 0, "no"}, {"fail", 1, 1, 0, 0, "no"}, {"A=1", 1, 4, 0, 0, "no"}, {"A=1,A=2", 2, 6, 0, 0, "no"}, {"A=1,p(A)", 2, 8, 0, 0, "no"}, {"A=1,A=2,p(A)", 2, 6, 0, 0, "no"},
	})
	checkCounts(t, "p(1,A).\np(2,A).\nq(A):-B=A,p(B,A).\nr:-q(1),q(2).", []countRow{
		{"q(1)", 3, 12, 0, 0, "no"}, {"q(3)", 3, 8, 0, 0, "no"}, {"q(A)", 3, 16, 1, 1, "no"}, {"r", 7, 25, 0, 0, "no"}, {"A=2,p(A,A)", 2, 9, 0, 0, "no"},
	})
	if got, end := impl.CountCode(nil, nil, 1, 0); got != (impl.Counts{Instrs: 1}) || end != impl.EndNo {
		t.Errorf("CountCode without goals = %+v, %s", got, endName(end))
	}
	if got, end := impl.CountCode(nil, nil, 0, 0); got != (impl.Counts{Instrs: 1}) || end != impl.EndMore {
		t.Errorf("CountCode without goals and answers = %+v, %s", got, endName(end))
	}
}

// TestHeadsThatDoNotFit has heads that can be unified up to each of their instructions, and others.
func TestHeadsThatDoNotFit(t *testing.T) {
	// The code of the head is getint 1 1; getint 2 2; getint 3 3.
	checkCounts(t, "h(A,1,2,3).", []countRow{
		{"h(a,1,2,3)", 1, 11, 0, 0, "no"}, {"h(a,0,2,3)", 1, 7, 0, 0, "no"}, {"h(a,1,0,3)", 1, 8, 0, 0, "no"}, {"h(a,1,2,0)", 1, 9, 0, 0, "no"}, {"h(A,B,C,D)", 1, 10, 0, 0, "no"},
		{"h(a,b,2,3)", 1, 8, 0, 0, "no"}, {"h(a,1,f(A),3)", 1, 10, 0, 0, "no"}, {"h(a,A,A,3)", 1, 8, 0, 0, "no"}, {"h(A,1,B,B)", 1, 8, 0, 0, "no"},
	})
	// getstr 4 1 f; uniint 1; univar 4; unival 4; uniint 2.
	checkCounts(t, "s(A,f(1,B,B,2)).", []countRow{
		{"s(a,f(1,3,3,2))", 1, 16, 0, 0, "no"}, {"s(a,f(0,3,3,2))", 1, 11, 0, 0, "no"}, {"s(a,f(1,3,4,2))", 1, 13, 0, 0, "no"}, {"s(a,f(1,3,3,0))", 1, 14, 0, 0, "no"}, {"s(a,f(A,A,A,B))", 1, 16, 0, 0, "no"}, {"s(a,f(A,B,C,D))", 1, 16, 0, 0, "no"}, {"s(a,f(A,B,3,A))", 1, 14, 0, 0, "no"}, {"s(a,f(A,2,A,3))", 1, 13, 0, 0, "no"},
		// The slot holds a variable, or something that cannot be unified with the structure.
		{"s(a,A)", 1, 11, 0, 0, "no"}, {"s(A,A)", 1, 10, 0, 0, "no"}, {"s(a,f(1,2,3))", 1, 9, 0, 0, "no"}, {"s(a,g(1,3,3,2))", 1, 10, 0, 0, "no"}, {"s(a,5)", 1, 5, 0, 0, "no"}, {"s(a,f)", 1, 6, 0, 0, "no"}, {"s(a,[])", 1, 6, 0, 0, "no"},
	})
	// getval 0 1; getstr 1 3 f; unival 2.
	checkCounts(t, "v(A,A,B,f(B)).", []countRow{
		{"v(1,1,2,f(2))", 1, 12, 0, 0, "no"}, {"v(1,2,2,f(2))", 1, 8, 0, 0, "no"}, {"v(1,1,2,f(3))", 1, 10, 0, 0, "no"}, {"v(A,B,C,D)", 1, 10, 0, 0, "no"}, {"v(f(A),A,B,C)", 1, 8, 0, 0, "no"}, {"v(A,f(B),B,C)", 1, 12, 0, 0, "no"}, {"v(A,A,A,A)", 1, 8, 0, 0, "no"},
	})
	checkCounts(t, "a(A,b).\na(A,c).\na(A,[]).\na(A,3).", []countRow{
		{"a(1,b)", 1, 10, 1, 1, "no"}, {"a(1,c)", 1, 10, 1, 1, "no"}, {"a(1,3)", 1, 9, 0, 0, "no"}, {"a(1,d)", 1, 8, 0, 0, "no"}, {"a(1,A)", 1, 15, 1, 3, "no"}, {"a(1,[b])", 1, 12, 0, 0, "no"}, {"a(1,b(1))", 1, 9, 0, 0, "no"},
	})
}

// TestStructuresOfHeadsThatAreBuilt has structures of heads for variables, and for variables that were put into slots before.
func TestStructuresOfHeadsThatAreBuilt(t *testing.T) {
	// getstr 2 1 f; univar 4; uniint 3; getstr 3 4 h; uniint 1; unival 0; uniint 2.
	checkCounts(t, "c(A,f(h(1,A,2),3)).", []countRow{
		{"c(a,A)", 1, 13, 0, 0, "no"}, {"c(a,f(A,3))", 1, 16, 0, 0, "no"}, {"c(a,f(A,4))", 1, 10, 0, 0, "no"}, {"c(A,f(B,A))", 1, 15, 0, 0, "no"},
		{"c(a,f(h(1,a,2),3))", 1, 21, 0, 0, "no"}, {"c(a,f(h(0,b,2),3))", 1, 17, 0, 0, "no"}, {"c(a,f(h(1,b,2),3))", 1, 18, 0, 0, "no"}, {"c(a,f(h(1,a,0),3))", 1, 19, 0, 0, "no"}, {"c(a,f(k(1,a,2),3))", 1, 16, 0, 0, "no"}, {"c(A,f(h(B,B,A),3))", 1, 17, 0, 0, "no"},
		// The structure would contain itself: it is built before it is unified.
		{"c(A,A)", 1, 10, 0, 0, "no"}, {"c(A,f(A,3))", 1, 13, 0, 0, "no"}, {"c(g(A),f(A,B))", 1, 15, 0, 0, "no"},
	})
	checkCounts(t, "e(A,f(A)).\ne(A,A).", []countRow{
		{"e(A,A)", 1, 8, 0, 0, "no"}, {"e(A,g(A))", 1, 7, 0, 0, "no"}, {"e(g(A),A)", 1, 8, 0, 0, "no"}, {"e(f(A),A)", 1, 8, 0, 0, "no"}, {"e(B,f(g(B)))", 1, 10, 0, 0, "no"}, {"e(B,f(B))", 1, 10, 1, 1, "no"},
	})
	// getstr 2 2 f; unival 0; unival 1, and getstr 2 2 k; univar 4; univar 5; getstr 1 4 f; unival 0; getstr 1 5 g; unival 1.
	checkCounts(t, "g(A,B,f(A,B)).\ng(A,B,k(f(A),g(B))).", []countRow{
		{"g(A,B,A)", 1, 12, 0, 0, "no"}, {"g(A,B,B)", 1, 14, 0, 0, "no"}, {"g(A,A,A)", 1, 12, 0, 0, "no"}, {"g(f(C),f(D),C)", 1, 16, 0, 0, "no"}, {"g(A,f(A),f(B,B))", 1, 13, 0, 0, "no"}, {"g(C,D,k(E,E))", 1, 14, 0, 0, "no"}, {"g(1,2,A)", 1, 18, 1, 1, "no"},
	})
}

// TestCandidatesBehindAClause has clauses that fit, or do not, when there are candidates behind them, and when there are none.
func TestCandidatesBehindAClause(t *testing.T) {
	// The head of the first clause has no instructions.
	checkCounts(t, "n(A,B):-A=B.\nn(A,2).\nn(3,A).", []countRow{
		{"n(1,B)", 2, 11, 1, 1, "no"}, {"n(3,B)", 2, 14, 1, 2, "no"}, {"n(3,3)", 2, 12, 1, 1, "no"}, {"n(4,4)", 2, 9, 1, 1, "no"}, {"n(A,B)", 2, 14, 1, 2, "no"}, {"n(f,2)", 2, 10, 1, 1, "no"},
	})
	checkCounts(t, "w(A,f(1,A)):-fail.\nw(A,f(2,A)).\nw(B,B).", []countRow{
		{"w(9,C)", 2, 15, 1, 2, "no"}, {"w(B,C)", 2, 15, 1, 2, "no"}, {"w(f(1,2),f(1,2))", 1, 17, 0, 0, "no"}, {"w(9,f(2,D))", 1, 14, 1, 1, "no"}, {"w(D,f(2,D))", 1, 14, 1, 1, "no"}, {"w(9,f(3,D))", 1, 11, 0, 0, "no"},
	})
	checkCounts(t, "b(A,A,1).\nb(A,B,2).\nb(A,C,D).", []countRow{
		{"b(B,7,2)", 1, 11, 1, 1, "no"}, {"b(B,7,3)", 1, 9, 0, 0, "no"}, {"b(B,C,2)", 1, 11, 1, 1, "no"}, {"b(B,C,D)", 1, 13, 1, 2, "no"}, {"b(7,7,1)", 1, 11, 1, 1, "no"},
	})
	// The execution goes back to a choice of which no candidate fits.
	checkCounts(t, "m(1).\nm(2).\nk(A,1).\nk(A,2).\nk(A,3).", []countRow{
		{"k(9,1)", 1, 8, 1, 1, "no"}, {"k(9,2)", 1, 8, 1, 1, "no"}, {"k(9,3)", 1, 8, 0, 0, "no"}, {"k(9,4)", 1, 6, 0, 0, "no"}, {"m(A),k(9,1)", 3, 22, 2, 3, "no"}, {"m(A),k(9,4)", 3, 18, 1, 1, "no"}, {"m(A),k(9,3)", 3, 22, 1, 1, "no"}, {"k(9,1),m(3)", 2, 9, 1, 1, "no"},
	})
}

// TestCountsWithCuts has cuts that remove choices, and cuts when none are left.
func TestCountsWithCuts(t *testing.T) {
	checkCounts(t, `
p(1).
p(2).
p(3).
a(A):-p(A),!.
a(9).
d(A,B):-p(A),p(B),!.
d(8,8).
z:-!.
y(A):-!,p(A).
y(7).
x(A):-p(A),A>1,!,fail.
x(0).
`, []countRow{
		{"!", 1, 2, 0, 0, "no"}, {"!,!", 2, 3, 0, 0, "no"}, {"z", 2, 4, 0, 0, "no"}, {"z,z", 4, 7, 0, 0, "no"}, {"p(1),!", 2, 6, 0, 0, "no"}, {"!,p(A)", 2, 12, 1, 2, "no"}, {"!,fail", 2, 2, 0, 0, "no"},
		{"p(A),!", 2, 6, 1, 0, "no"}, {"p(A),p(B),!", 3, 10, 2, 0, "no"}, {"p(A),!,p(B)", 3, 16, 1, 2, "no"}, {"p(A),!,fail", 3, 6, 1, 0, "no"},
		// Choices that are removed by the cut are not gone back to.
		{"a(A)", 3, 9, 2, 0, "no"}, {"a(9)", 2, 7, 1, 1, "no"}, {"a(2)", 3, 9, 0, 0, "no"}, {"d(A,B)", 4, 14, 3, 0, "no"}, {"p(A),a(B)", 10, 35, 3, 2, "no"}, {"p(A),d(B,C),!", 6, 19, 4, 0, "no"}, {"y(A)", 3, 17, 1, 2, "no"}, {"a(A),p(B)", 4, 19, 2, 2, "no"}, {"x(A)", 6, 16, 2, 1, "no"},
		// The greatest number is reached early.
		{"p(A),p(B),p(C),!,p(D)", 5, 24, 3, 2, "no"}, {"p(A),p(B),p(C),A>3", 40, 185, 3, 26, "no"}, {"p(A),p(B),p(C),!,p(D),D>1", 8, 32, 3, 2, "no"},
	})
}

// TestCountsAtEachEnd has a goal that ends the execution, and the choices that are left then.
func TestCountsAtEachEnd(t *testing.T) {
	checkCounts(t, `
p(1).
p(2).
p(3).
grow(A):-grow(f(A,A,A,A)).
large(A,f(A,A,A,A)).
loop:-loop.
`, []countRow{
		{"A is B", 1, 3, 0, 0, "inst"}, {"p(A),A is B+1", 2, 10, 1, 0, "inst"}, {"a<1", 1, 4, 0, 0, "type"}, {"p(A),A>1,arg(1,A,B)", 4, 16, 1, 1, "type"}, {"p(A),B is 1//(A-2)", 3, 25, 1, 1, "zero"}, {"p(A),B is 499*A", 4, 28, 1, 2, "range"},
		{"nosuch", 1, 1, 0, 0, "unknown"}, {"nosuch(1,A)", 1, 3, 0, 0, "unknown"}, {"p(A),p(A,A)", 2, 7, 1, 0, "unknown"}, {"p(4),nosuch", 1, 2, 0, 0, "no"},
		// The goals have 2, 6, 22 and 86 nodes, and the last one has too many.
		{"grow(a)", 5, 31, 0, 0, "large"}, {"p(A),grow(A)", 6, 34, 1, 0, "large"},
		// The answer is too large: the end of the query was executed.
		{"large(a,A),large(A,B),large(B,C),large(C,D)", 4, 38, 0, 0, "large"}, {"p(A),large(a,B),large(B,C),large(C,D),large(D,E)", 5, 42, 1, 0, "large"},
		{"loop", 300, 300, 0, 0, "fuel"}, {"p(A),loop", 300, 303, 1, 0, "fuel"},
	})
}

// TestCountsWithLittleFuel has executions that stop when a goal would be taken: its call does not count, but
// the instructions that put its arguments do.
func TestCountsWithLittleFuel(t *testing.T) {
	p := mustProgram(t, "p(1).", "p(2).", "c(A):-p(A),!,A>1.", "d(A,B):-p(A),p(B).")
	for text, rows := range map[string][]countRow{
		"p(A),A>1":  {{"", 0, 1, 0, 0, "fuel"}, {"", 1, 6, 1, 0, "fuel"}, {"", 2, 11, 1, 1, "fuel"}, {"", 3, 13, 1, 1, "no"}, {"", 3, 13, 1, 1, "no"}},
		"p(f(A),1)": {{"", 0, 4, 0, 0, "fuel"}, {"", 1, 5, 0, 0, "unknown"}, {"", 1, 5, 0, 0, "unknown"}},
		"c(A)":      {{"", 0, 1, 0, 0, "fuel"}, {"", 1, 3, 0, 0, "fuel"}, {"", 2, 6, 1, 0, "fuel"}, {"", 3, 9, 1, 0, "fuel"}, {"", 4, 10, 1, 0, "no"}, {"", 4, 10, 1, 0, "no"}},
		"d(A,B)":    {{"", 0, 2, 0, 0, "fuel"}, {"", 1, 4, 0, 0, "fuel"}, {"", 2, 8, 1, 0, "fuel"}, {"", 3, 20, 2, 2, "fuel"}, {"", 4, 29, 2, 3, "no"}, {"", 4, 29, 2, 3, "no"}},
		"true,!":    {{"", 0, 0, 0, 0, "fuel"}, {"", 1, 1, 0, 0, "fuel"}, {"", 2, 3, 0, 0, "no"}, {"", 2, 3, 0, 0, "no"}},
		"p(3),p(1)": {{"", 0, 1, 0, 0, "fuel"}, {"", 1, 2, 0, 0, "no"}, {"", 1, 2, 0, 0, "no"}},
		"fail":      {{"", 0, 0, 0, 0, "fuel"}, {"", 1, 1, 0, 0, "no"}},
		"A is B":    {{"", 0, 2, 0, 0, "fuel"}, {"", 1, 3, 0, 0, "inst"}},
	} {
		for fuel, row := range rows {
			row.query = text
			checkCount(t, p, impl.MaxAnswers, fuel, row)
		}
	}
	for fuel := range 3 {
		if got, end := impl.CountCode(p, nil, 5, fuel); got != (impl.Counts{Instrs: 1}) || end != impl.EndNo {
			t.Errorf("CountCode without goals, with the fuel %d = %+v, %s", fuel, got, endName(end))
		}
	}
}

// TestCountsUpToAnAnswer has executions that stop at the answer behind as many as are wanted.
func TestCountsUpToAnAnswer(t *testing.T) {
	p := mustProgram(t, "p(1).", "p(2).", "p(3).", "large(A,f(A,A,A,A)).")
	for most, row := range []countRow{{"p(A)", 1, 5, 1, 0, "more"}, {"p(A)", 1, 8, 1, 1, "more"}, {"p(A)", 1, 11, 1, 2, "more"}, {"p(A)", 1, 11, 1, 2, "no"}, {"p(A)", 1, 11, 1, 2, "no"}} {
		checkCount(t, p, most, impl.MaxFuel, row)
		checkCount(t, p, most, 1, row)
	}
	for most, row := range []countRow{{"p(A),A>1", 3, 13, 1, 1, "more"}, {"p(A),A>1", 4, 19, 1, 2, "more"}, {"p(A),A>1", 4, 19, 1, 2, "no"}} {
		checkCount(t, p, most, impl.MaxFuel, row)
	}
	// An answer behind the last one that is wanted is one, whatever its size.
	query := countRow{"large(a,A),large(A,B),large(B,C),large(C,D)", 4, 38, 0, 0, "more"}
	checkCount(t, p, 0, impl.MaxFuel, query)
	query.end = "large"
	checkCount(t, p, 1, impl.MaxFuel, query)
	checkCount(t, p, 0, impl.MaxFuel, countRow{"fail", 1, 1, 0, 0, "no"})
	checkCount(t, p, 0, impl.MaxFuel, countRow{"true", 1, 2, 0, 0, "more"})
}

// TestCountsOfInvalidExecutions has arguments that are not valid, alone and with others.
func TestCountsOfInvalidExecutions(t *testing.T) {
	p, query := mustProgram(t, "p(1).", "p(2)."), mustQuery(t, "p(A)")
	check := func(p []impl.Clause, query []impl.Term, most int, fuel int) {
		t.Helper()
		if got, end := impl.CountCode(p, query, most, fuel); got != (impl.Counts{}) || end != impl.EndInvalid {
			t.Errorf("CountCode(%v, %v, %d, %d) = %+v, %s", p, query, most, fuel, got, endName(end))
		}
	}
	for _, n := range []int{-1, impl.MaxAnswers + 1, impl.MaxAnswers + 2, -1 << 63, 1<<63 - 1} {
		check(p, query, n, 10)
		check(nil, nil, n, 0)
	}
	for _, n := range []int{-1, impl.MaxFuel + 1, impl.MaxFuel + 2, -1 << 63, 1<<63 - 1} {
		check(p, query, 10, n)
		check(nil, nil, 0, n)
	}
	for _, bad := range invalidClauses() {
		check([]impl.Clause{bad}, query, 10, 10)
		check([]impl.Clause{p[0], bad}, nil, 0, 0)
	}
	for _, bad := range invalidQueries() {
		check(p, bad, 10, 10)
		check(nil, bad, 0, 0)
	}
	check(slices.Repeat(p, impl.MaxClauses/2+1), query, 10, 10)
	checkCount(t, slices.Repeat(p[:1], impl.MaxClauses), impl.MaxAnswers, impl.MaxFuel, countRow{"p(A)", 1, 2 + 3*impl.MaxClauses, 1, impl.MaxClauses - 1, "no"})
}
