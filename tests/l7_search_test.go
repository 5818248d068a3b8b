package tests

import (
	"slices"
	"testing"

	"loop.example/prologserver/impl"
)

// checkLeft checks the numbers of choices of a search that tries all clauses, and of one that tries candidates.
func checkLeft(t *testing.T, p []impl.Clause, query []impl.Term, fuel int, all int, candidates int) {
	t.Helper()
	if got := impl.LeftChoices(p, query, fuel, false); got != all {
		t.Errorf("LeftChoices(%s, %d) of all clauses = %d, not %d", writeAll(query), fuel, got, all)
	}
	if got := impl.LeftChoices(p, query, fuel, true); got != candidates {
		t.Errorf("LeftChoices(%s, %d) of candidates = %d, not %d", writeAll(query), fuel, got, candidates)
	}
}

// leftRow is a query with its answers and end, and with the numbers of choices.
type leftRow struct {
	query, answers, end string
	all, candidates     int
}

// checkRows checks rows without limits that matter.
func checkRows(t *testing.T, p []impl.Clause, rows []leftRow) {
	t.Helper()
	for _, row := range rows {
		query := mustQuery(t, row.query)
		checkSolve(t, p, query, impl.MaxAnswers, impl.MaxFuel, row.answers, row.end)
		checkLeft(t, p, query, impl.MaxFuel, row.all, row.candidates)
	}
}

// keyed has clauses of many keys, and others that call them.
const keyed = `
v(1,a).
v(2,b).
v(2,c).
v(f(A),d).
v([],e).
v([A|B],f).
v(-1,g).
v(x,h).
v(f,i).
w(1,a).
w(A,b).
w(2,c).
s(1).
s(2).
s(3).
go(A,B):-v(A,B).
via(A,B):-C=A,D=C,v(D,B).
last(9,A).
`

// TestChoicesOfFurtherCandidates has goals with further clauses, which are candidates or not, and fit or not.
func TestChoicesOfFurtherCandidates(t *testing.T) {
	checkRows(t, programOf(t, keyed), []leftRow{
		{"v(1,A)", "A=a", "no", 1, 0}, {"v(2,A)", "A=b & A=c", "no", 1, 1}, {"v(2,b)", "yes", "no", 1, 1}, {"v(2,c)", "yes", "no", 1, 0}, {"v([],A)", "A=e", "no", 1, 0}, {"v([1],A)", "A=f", "no", 1, 0}, {"v(f(1),A)", "A=d", "no", 1, 0}, {"v(-1,A)", "A=g", "no", 1, 0}, {"v(x,A)", "A=h", "no", 1, 0},
		{"v(A,d)", "A=f(A)", "no", 1, 1}, {"v(A,i)", "A=f", "no", 0, 0}, {"v(f,A)", "A=i", "no", 0, 0}, {"last(9,A)", "A=A", "no", 0, 0},
		// A clause whose first argument is a variable is always a candidate.
		{"w(1,A)", "A=a & A=b", "no", 1, 1}, {"w(2,A)", "A=b & A=c", "no", 1, 1}, {"w(3,A)", "A=b", "no", 1, 0}, {"w(x,A)", "A=b", "no", 1, 0}, {"w(1,b)", "yes", "no", 1, 0}, {"w(f(A),B)", "A=A;B=b", "no", 1, 0},
		// There are clauses, but no candidates, or none that fits: the goal fails.
		{"v(3,A)", "", "no", 0, 0}, {"v(f(1,2),A)", "", "no", 0, 0}, {"v(2,x)", "", "no", 0, 0}, {"last(1,A)", "", "no", 0, 0}, {"s(A),v(3,B)", "", "no", 1, 1}, {"s(A),last(A,B)", "", "no", 1, 1}, {"v(3,A),nosuch", "", "no", 0, 0},
	})
}

// TestCandidatesOfGoalsThatAreTaken has variables that stand for first arguments when a goal is taken.
func TestCandidatesOfGoalsThatAreTaken(t *testing.T) {
	checkRows(t, programOf(t, keyed), []leftRow{
		{"A=1,v(A,B)", "A=1;B=a", "no", 1, 0}, {"A is 3-4,v(A,B)", "A=-1;B=g", "no", 1, 0}, {"A=x,v(A,B)", "A=x;B=h", "no", 1, 0}, {"A=[],v(A,B)", "A=[];B=e", "no", 1, 0}, {"A=f(C),v(A,B)", "A=f(A);C=A;B=d", "no", 1, 0}, {"A=[1],v(A,B)", "A=[1];B=f", "no", 1, 0}, {"A=3,v(A,B)", "", "no", 0, 0},
		{"A=B,B=C,C=1,v(A,D)", "A=1;B=1;C=1;D=a", "no", 1, 0}, {"A=B,v(A,a)", "A=1;B=1", "no", 1, 1}, {"A=B,v(B,a),v(A,C)", "A=1;B=1;C=a", "no", 2, 1},
		{"go(1,A)", "A=a", "no", 1, 0}, {"go(x,A)", "A=h", "no", 1, 0}, {"go(f(2),A)", "A=d", "no", 1, 0}, {"go(A,a)", "A=1", "no", 1, 1}, {"via(1,A)", "A=a", "no", 1, 0}, {"via([],A)", "A=e", "no", 1, 0}, {"via(A,a)", "A=1", "no", 1, 1}, {"via(3,A)", "", "no", 0, 0},
		{"v(A,a),v(A,B)", "A=1;B=a", "no", 2, 1}, {"v(A,i),v(A,B)", "A=f;B=i", "no", 0, 0}, {"v(A,a),go(A,B),via(A,C)", "A=1;B=a;C=a", "no", 3, 1},
	})
}

// TestWhenChoicesAreCounted has choices that are there when an answer is found, or when a goal is about to be taken.
func TestWhenChoicesAreCounted(t *testing.T) {
	p := programOf(t, keyed)
	checkRows(t, p, []leftRow{
		{"s(A)", "A=1 & A=2 & A=3", "no", 1, 1}, {"s(A),fail", "", "no", 1, 1}, {"s(A),true", "A=1 & A=2 & A=3", "no", 1, 1}, {"s(A),s(B),fail", "", "no", 2, 2}, {"s(A),s(A)", "A=1 & A=2 & A=3", "no", 2, 1}, {"s(A),s(B),A>2", "A=3;B=1 & A=3;B=2 & A=3;B=3", "no", 2, 2}, {"s(A),A>2,s(B)", "A=3;B=1 & A=3;B=2 & A=3;B=3", "no", 1, 1}, {"s(1),s(2),s(3)", "yes", "no", 2, 0}, {"s(3),s(3)", "yes", "no", 0, 0},
		{"true", "yes", "no", 0, 0}, {"fail", "", "no", 0, 0}, {"!", "yes", "no", 0, 0}, {"A=1", "A=1", "no", 0, 0}, {"s(4)", "", "no", 0, 0}, {"nosuch", "", "unknown", 0, 0},
	})
	for _, program := range [][]impl.Clause{nil, p} {
		for fuel := range impl.MaxFuel + 1 {
			checkLeft(t, program, nil, fuel, 0, 0)
			checkLeft(t, program, []impl.Term{}, fuel, 0, 0)
		}
	}
}

// TestChoicesAtEachEnd has searches that end while there are choices.
func TestChoicesAtEachEnd(t *testing.T) {
	checkRows(t, append(programOf(t, keyed), mustProgram(t, "g(A):-g(f(A,A)).", "g(1).")...), []leftRow{
		{"s(A),A is B", "", "inst", 1, 1}, {"s(A),v(1,B),A<b", "", "type", 2, 1}, {"s(A),s(B),C is 2//(B-2)", "A=1;B=1;C=-2", "zero", 2, 2}, {"s(1),A is 999+1", "", "range", 1, 0}, {"s(A),nosuch(A)", "", "unknown", 1, 1}, {"v(1,A),nosuch(A)", "", "unknown", 1, 0}, {"s(A),v(3,A),nosuch", "", "no", 1, 1},
		// The goals of g have 2, 4 and up to 64 nodes, and then too many.
		{"g(a)", "", "large", 6, 0}, {"g(A)", "", "large", 6, 1}, {"s(A),g(a)", "", "large", 7, 1}, {"s(3),g(a)", "", "large", 6, 0},
	})
	// An answer that is too large is found, too.
	four := structure("f", variable(0), variable(0), variable(0), variable(0))
	large := []impl.Clause{{Head: structure("d", variable(0), four)}, {Head: structure("d", number(1), number(1))}, {Head: structure("e", variable(0), four)}, {Head: structure("e", variable(0), number(1))}}
	for name, candidates := range map[string]int{"d": 0, "e": 1} {
		query := []impl.Term{structure(name, bush(40), variable(1))}
		checkSolve(t, large, query, impl.MaxAnswers, impl.MaxFuel, "", "large")
		checkLeft(t, large, query, impl.MaxFuel, 1, candidates)
	}
}

// TestLargeGoalsWithoutCandidates has goals that are too large: this ends a search before clauses are looked at.
func TestLargeGoalsWithoutCandidates(t *testing.T) {
	a, b := variable(0), variable(1)
	for extra := range 4 {
		last := structure("p", number(3), structure("f", a, a))
		p := append(mustProgram(t, "p(1,A).", "p(2,A).", "go(1)."), impl.Clause{Head: structure("go", b), Body: []impl.Term{equal(a, bush(57+extra)), last}})
		// The goal has 117, 119, 121 and 123 nodes.
		end := "no"
		if extra > 1 {
			end = "large"
		}
		checkSolve(t, p, mustQuery(t, "go(A)"), impl.MaxAnswers, impl.MaxFuel, "A=1", end)
		checkSolve(t, p, mustQuery(t, "go(A)"), impl.MaxAnswers, 2, "A=1", "fuel")
	}
}

// TestChoicesWithLittleFuel has searches that stop while choices are left. A goal is about to be taken then,
// though there is no fuel for it.
func TestChoicesWithLittleFuel(t *testing.T) {
	p := append(programOf(t, keyed), mustProgram(t, "loop(1):-loop(1).", "loop(2).")...)
	for text, pairs := range map[string][][2]int{
		"s(A),s(B),s(C)":          {{0, 0}, {1, 1}, {2, 2}, {3, 3}, {3, 3}, {3, 3}},
		"s(A),fail":               {{0, 0}, {1, 1}, {1, 1}, {1, 1}, {1, 1}},
		"s(A),v(A,B),v(1,C),fail": {{0, 0}, {1, 1}, {2, 1}, {3, 1}, {3, 1}, {3, 2}, {3, 2}},
		"v(1,A),s(B),!,s(C)":      {{0, 0}, {1, 0}, {2, 1}, {2, 1}, {2, 1}, {2, 1}},
		"true,s(A),!":             {{0, 0}, {0, 0}, {1, 1}, {1, 1}},
		"s(A),nosuch":             {{0, 0}, {1, 1}, {1, 1}},
		"nosuch":                  {{0, 0}, {0, 0}},
	} {
		for fuel, pair := range pairs {
			checkLeft(t, p, mustQuery(t, text), fuel, pair[0], pair[1])
		}
	}
	for fuel := range impl.MaxFuel + 1 {
		checkLeft(t, p, mustQuery(t, "loop(1)"), fuel, fuel, 0)
	}
}

// TestChoicesBeforeCuts has cuts that remove the greatest number of choices.
func TestChoicesBeforeCuts(t *testing.T) {
	checkRows(t, mustProgram(t, "s(1).", "s(2).", "s(3).", "a(A):-s(A),s(B),!,s(C).", "a(9)."), []leftRow{
		{"s(A),!", "A=1", "no", 1, 1}, {"s(A),s(B),s(C),!", "A=1;B=1;C=1", "no", 3, 3}, {"s(A),!,s(B)", "A=1;B=1 & A=1;B=2 & A=1;B=3", "no", 1, 1}, {"s(A),s(B),!,s(C),s(D),!", "A=1;B=1;C=1;D=1", "no", 2, 2}, {"s(A),s(B),!,fail", "", "no", 2, 2}, {"s(3),!", "yes", "no", 0, 0},
		{"a(A)", "A=1 & A=1 & A=1", "no", 3, 3}, {"a(A),!", "A=1", "no", 3, 3}, {"a(2)", "yes & yes & yes", "no", 3, 1}, {"a(9)", "yes", "no", 1, 1}, {"s(A),a(A),!", "A=1", "no", 4, 2}, {"s(A),a(A)", "A=1 & A=1 & A=1 & A=2 & A=2 & A=2 & A=3 & A=3 & A=3", "no", 4, 2},
	})
}

// TestCutsBehindGoalsWithoutChoices has cuts behind goals that leave a choice only if all clauses are tried.
func TestCutsBehindGoalsWithoutChoices(t *testing.T) {
	checkRows(t, programOf(t, `
v(1,a).
v(x,h).
v(f,i).
s(1).
s(2).
s(3).
u(1,A):-v(x,A),!.
u(2,no).
u(A,B):-v(f,B),!.
one(A):-v(1,A),!,s(B).
one(b).
each(A):-s(A),v(1,B),v(x,C).
each(4):-v(1,A),!.
each(5).
`), []leftRow{
		{"u(1,A)", "A=h", "no", 2, 1}, {"s(A),u(A,B)", "A=1;B=h & A=2;B=no & A=2;B=i & A=3;B=i", "no", 3, 2}, {"u(A,B)", "A=1;B=h", "no", 2, 1}, {"one(A)", "A=a & A=a & A=a", "no", 2, 1}, {"s(A),one(B),!", "A=1;B=a", "no", 3, 2}, {"v(1,A),!", "A=a", "no", 1, 0}, {"v(1,A),v(x,B),!,v(1,C)", "A=a;B=h;C=a", "no", 2, 0},
		{"each(A)", "A=1 & A=2 & A=3 & A=4", "no", 4, 2}, {"each(4)", "yes", "no", 2, 1}, {"each(2)", "yes", "no", 4, 0},
	})
}

// TestChoicesOfManyAnswers has searches with more answers than MaxAnswers: the one behind these is found, too.
func TestChoicesOfManyAnswers(t *testing.T) {
	p := mustProgram(t, "n(1).", "n(2).", "n(3).", "m(1).", "m(2).", "m(3).", "m(4).", "m(5).", "m(6).", "m(7).", "d(3,7):-e,e,e.", "d(A,B).", "e.", "e.")
	query := mustQuery(t, "n(A),m(B),d(A,B)")
	for _, solve := range solvers() {
		if answers, end := solve(p, query, impl.MaxAnswers, impl.MaxFuel); len(answers) != impl.MaxAnswers || end != impl.EndMore {
			t.Errorf("there are %d answers, and the end %s", len(answers), endName(end))
		}
	}
	checkLeft(t, p, query, impl.MaxFuel, 4, 4)
	// The search stops there, and does not find the next one.
	p = mustProgram(t, "n(1).", "n(2).", "m(1).", "m(2).", "m(3).", "m(4).", "m(5).", "m(6).", "m(7).", "m(8).", "m(9).", "m(10).", "m(11).", "d(2,11):-e,e,e.", "d(A,B).", "e.", "e.")
	checkLeft(t, p, query, impl.MaxFuel, 2, 2)
	// It looks for that answer, though there is none.
	p = mustProgram(t, "z(A,B):-y(A),x(B).", "z(A,B):-e,e,e,e,fail.", "y(1).", "y(2).", "y(3).", "y(4).", "x(1).", "x(2).", "x(3).", "x(4).", "x(5).", "e.", "e.")
	query = mustQuery(t, "z(A,B)")
	if answers, end := impl.SolveIndexed(p, query, impl.MaxAnswers, impl.MaxFuel); len(answers) != impl.MaxAnswers || end != impl.EndNo {
		t.Errorf("there are %d answers, and the end %s", len(answers), endName(end))
	}
	checkLeft(t, p, query, impl.MaxFuel, 4, 4)
}

// TestChoicesOfInvalidSearches has arguments that are not valid, beside others with which there are choices.
func TestChoicesOfInvalidSearches(t *testing.T) {
	p, query := mustProgram(t, "p(1).", "p(2)."), mustQuery(t, "p(A)")
	checkLeft(t, p, query, impl.MaxFuel, 1, 1)
	for _, fuel := range []int{-1, impl.MaxFuel + 1, impl.MaxFuel + 2, -1 << 63, 1<<63 - 1} {
		checkLeft(t, p, query, fuel, 0, 0)
		checkLeft(t, p, nil, fuel, 0, 0)
	}
	for _, bad := range invalidClauses() {
		checkLeft(t, append(slices.Clone(p), bad), query, 10, 0, 0)
		checkLeft(t, append([]impl.Clause{bad}, p...), query, impl.MaxFuel, 0, 0)
	}
	for _, bad := range invalidQueries() {
		checkLeft(t, p, bad, 10, 0, 0)
		checkLeft(t, p, append(slices.Clone(query), bad...), 10, 0, 0)
	}
	many := slices.Repeat(p[:1], impl.MaxClauses)
	checkLeft(t, many, query, 1, 1, 1)
	checkLeft(t, append(many, p[0]), query, 1, 0, 0)
}

// TestSolveIndexedForAllLimits compares the answers and ends of both searches for each most and fuel.
func TestSolveIndexedForAllLimits(t *testing.T) {
	count := 0
	compare := func(p []impl.Clause, query []impl.Term, most int, fuel int) {
		want, wantEnd := impl.Solve(p, query, most, fuel)
		got, end := impl.SolveIndexed(p, query, most, fuel)
		if end != wantEnd || !slices.EqualFunc(got, want, impl.AnswerSame) {
			t.Errorf("SolveIndexed(%s, %d, %d) = %q, %s, not %q, %s", writeAll(query), most, fuel, formatAnswers(query, got), endName(end), formatAnswers(query, want), endName(wantEnd))
		}
		count++
	}
	for program, texts := range map[string][]string{
		lists:                       {"app(A,B,[1,2])", "len([a,b],A)", "mem(A,[1,2]),mem(B,[A,3])", "perm([1,2],A)", "last(A,1)"},
		family:                      {"anc(ann,A)", "fac(2,A)", "abs(-5,A)", "add(A,B,s(s(o)))", "sib(A,B),!", "nat(A)"},
		choices:                     {"f(A,B)", "p(A),i(B,C)", "g(A),a(B)"},
		keyed:                       {"s(A),w(A,B)", "v(A,a),v(A,B)", "s(A),A>1,B is 1//(A-3)", "v(3,A),nosuch", "s(A),nosuch", "s(A),v(A,B),s(C)"},
		"p(1):-p(1).\np(2).\np(A).": {"p(1)", "p(2)", "p(A)"},
	} {
		p := programOf(t, program)
		for _, text := range texts {
			query := mustQuery(t, text)
			for most := range impl.MaxAnswers + 1 {
				for fuel := range 40 {
					compare(p, query, most, fuel)
				}
				compare(p, query, most, impl.MaxFuel)
			}
			for fuel := range impl.MaxFuel + 1 {
				compare(p, query, impl.MaxAnswers, fuel)
			}
		}
	}
	if count < 20000 {
		t.Errorf("only %d searches were compared", count)
	}
}

// TestSolveIndexedStepByStep compares many searches with those of slowSearch, answers, ends and choices.
func TestSolveIndexedStepByStep(t *testing.T) {
	s := source{state: 43}
	met := make([]int, len(endNames))
	fewer, several := 0, 0
	for range 10000 {
		p, query, fuel := s.knownProgram(), s.knownQuery(), s.below(60)
		for _, indexed := range []bool{false, true} {
			want := &slowSearch{program: p, indexed: indexed, most: impl.MaxAnswers, fuel: fuel}
			want.search(query)
			got, end := impl.SolveIndexed(p, query, impl.MaxAnswers, fuel)
			if end != want.end || !slices.EqualFunc(got, want.answers, impl.AnswerSame) {
				t.Fatalf("SolveIndexed(%s, %d) = %q, %s, not %q, %s, for\n%s", writeAll(query), fuel, formatAnswers(query, got), endName(end), formatAnswers(query, want.answers), endName(want.end), impl.FormatProgram(p))
			}
			if left := impl.LeftChoices(p, query, fuel, indexed); left != want.left {
				t.Fatalf("LeftChoices(%s, %d, %v) = %d, not %d, for\n%s", writeAll(query), fuel, indexed, left, want.left, impl.FormatProgram(p))
			}
			met[end]++
			if indexed && want.left > 1 {
				several++
			}
		}
		if impl.LeftChoices(p, query, fuel, true) < impl.LeftChoices(p, query, fuel, false) {
			fewer++
		}
	}
	for end, count := range met[:impl.EndInvalid] {
		if count < 10 {
			t.Errorf("only %d searches have the end %s", count, endName(end))
		}
	}
	if fewer < 500 || several < 1000 {
		t.Errorf("only %d searches have fewer choices with candidates, and %d have several", fewer, several)
	}
}

// TestIndexedSearchesShareNoMemory has answers that are parts of clauses and of the query.
func TestIndexedSearchesShareNoMemory(t *testing.T) {
	const want = "A=f(g(1),A);B=f(g(1),B) & A=h(g(2));B=h(g(2))"
	p, query := mustProgram(t, "p(1,f(g(1),A),f(g(1),B)).", "p(2,A,B).", "p(1,A,A):-A=h(g(2))."), mustQuery(t, "p(1,A,B)")
	texts := impl.FormatProgram(p) + writeAll(query)
	first, _ := impl.SolveIndexed(p, query, 5, 5)
	second, _ := impl.SolveIndexed(p, query, 5, 5)
	if got := impl.FormatProgram(p) + writeAll(query); got != texts {
		t.Errorf("an argument was changed: %s", got)
	}
	overwriteClauses(p)
	overwrite(query)
	query = mustQuery(t, "p(1,A,B)")
	if got := formatAnswers(query, first); got != want {
		t.Errorf("SolveIndexed = %s, not %s, or it shares memory with an argument", got, want)
	}
	overwrite(first[1].Values[0].Kids)
	if got := formatAnswers(query, first); got != "A=f(g(1),A);B=f(g(1),B) & A=h(77);B=h(g(2))" {
		t.Errorf("parts of the answers share memory: %s", got)
	}
	for _, a := range first[:cap(first)] {
		overwrite(a.Values)
	}
	if got := formatAnswers(query, second); got != want {
		t.Errorf("two results of SolveIndexed share memory: %s", got)
	}
}

// TestIndexingChangesNothing has arguments with memory beyond their length.
func TestIndexingChangesNothing(t *testing.T) {
	kids := []impl.Term{structure("f", variable(4)), variable(9), number(7), number(8)}
	goal := impl.Term{Kind: impl.TermStruct, Name: "q", Kids: kids[:2]}
	goals := []impl.Term{goal, structure("!"), number(5), number(6)}
	p := []impl.Clause{{Head: goal, Body: goals[1:2]}, {Head: goal}, {Head: structure("last")}}
	impl.FirstKey(goal)
	impl.Candidates(p[:2], goal)
	impl.Determinate(p[:2], "q", 2)
	for fuel := range 4 {
		impl.SolveIndexed(p[:2], goals[:2], 1, fuel)
		impl.SolveIndexed(p[:2], goals[:1], 2, fuel)
		impl.LeftChoices(p[:2], goals[:1], fuel, true)
		impl.LeftChoices(p[:2], goals[:2], fuel, false)
	}
	if got := formatAll(kids) + " " + formatAll(goals); got != "f(E) J 7 8 q(f(E),J) ! 5 6" {
		t.Errorf("an argument was changed: %s", got)
	}
	if got := impl.FormatProgram(p); got != "q(f(E),J):-!.\nq(f(E),J).\nlast.\n" {
		t.Errorf("an argument was changed: %s", got)
	}
}
