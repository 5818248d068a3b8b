package tests

import (
	"slices"
	"strings"
	"testing"

	"loop.example/prologserver/impl"
)

// checkTrace checks the goals that are taken, in the texts of chapter 1, and the end.
func checkTrace(t *testing.T, p []impl.Clause, query []impl.Term, fuel int, want string, wantEnd string) {
	t.Helper()
	goals, end := impl.GoalTrace(p, query, fuel)
	if got := formatAll(goals); got != want || endName(end) != wantEnd {
		t.Errorf("GoalTrace(%s, %d) = %s, %s, not %s, %s", writeAll(query), fuel, got, endName(end), want, wantEnd)
	}
}

// checkTraces checks rows of a query, the goals that are taken, and the end.
func checkTraces(t *testing.T, program string, rows [][3]string) {
	t.Helper()
	p := programOf(t, program)
	for _, row := range rows {
		checkTrace(t, p, mustQuery(t, row[0]), impl.MaxFuel, row[1], row[2])
	}
}

func TestGoalTrace(t *testing.T) {
	checkTraces(t, "p(1).\np(2).\nq(A,B):-p(A),B is A+1.\nr(A):-q(B,A).", [][3]string{
		{"p(A),A>1", "p(A) >(1,1) >(2,1)", "no"}, {"p(A)", "p(A)", "no"}, {"p(2)", "p(2)", "no"}, {"true", "true", "no"}, {"A=B,B=1,A=C", "=(A,B) =(A,1) =(1,A)", "no"},
		{"q(A,B)", "q(A,B) p(A) is(A,+(1,1)) is(A,+(2,1))", "no"}, {"q(2,B)", "q(2,A) p(2) is(A,+(2,1))", "no"}, {"r(A)", "r(A) q(A,B) p(A) is(A,+(1,1)) is(A,+(2,1))", "no"}, {"r(A),p(A)", "r(A) q(A,B) p(A) is(A,+(1,1)) p(2) is(A,+(2,1)) p(3)", "no"},
		// Goals that fail: no candidate, no clause that fits, and goals that are built in.
		{"p(3)", "p(3)", "no"}, {"p(A),p(3)", "p(A) p(3) p(3)", "no"}, {"fail", "fail", "no"}, {"p(A),fail,p(B)", "p(A) fail fail", "no"}, {"A=1,A=2,p(A)", "=(A,1) =(1,2)", "no"}, {"p(A),A==2,p(B)", "p(A) ==(1,2) ==(2,2) p(A)", "no"},
		{"var(A),nonvar(A)", "var(A) nonvar(A)", "no"}, {"atom(a),int(1),arg(1,f(B,A),C)", "atom(a) int(1) arg(1,f(A,B),C)", "no"}, {"A\\=B", "\\=(A,B)", "no"}, {"[A]=[B,C|D]", "=([A],[B,C|D])", "no"},
	})
	checkTrace(t, nil, nil, 0, "", "no")
	checkTrace(t, nil, []impl.Term{}, impl.MaxFuel, "", "no")
}

// TestGoalsOfATraceAreNumbered has variables whose numbers depend on the goal alone.
func TestGoalsOfATraceAreNumbered(t *testing.T) {
	checkTraces(t, "p(A,B,f(B,C,A)).\nq(Z,Y):-r(Y,X,Z,X).\nr(A,B,C,D).\ns(A):-p(B,C,D),t(D,A).\nt(A,B).", [][3]string{
		{"p(Z,Y,X)", "p(A,B,C)", "no"}, {"p(B,A,C),t(C,B)", "p(A,B,C) t(f(A,B,C),C)", "no"}, {"q(B,A)", "q(A,B) r(A,B,C,B)", "no"}, {"q(A,A)", "q(A,A) r(A,B,A,B)", "no"}, {"s(E)", "s(A) p(A,B,C) t(f(A,B,C),D)", "no"}, {"s(f(Z,Y,Z))", "s(f(A,B,A)) p(A,B,C) t(f(A,B,C),f(D,E,D))", "no"}, {"A=B,t(B,C),C=B,t(C,A)", "=(A,B) t(A,B) =(A,B) t(A,A)", "no"},
	})
}

func TestTracesWithCuts(t *testing.T) {
	checkTraces(t, "p(1).\np(2).\np(3).\na(A):-p(A),!.\na(9).\nx(A):-p(A),A>1,!,fail.\nx(0).\nz:-!.", [][3]string{
		{"!", "!", "no"}, {"!,!", "! !", "no"}, {"p(A),!,p(B)", "p(A) ! p(A)", "no"}, {"p(A),!,fail", "p(A) ! fail", "no"}, {"a(A)", "a(A) p(A) !", "no"}, {"a(9)", "a(9) p(9)", "no"}, {"z,z", "z ! z !", "no"}, {"x(A)", "x(A) p(A) >(1,1) >(2,1) ! fail", "no"},
		{"p(A),a(B)", "p(A) a(A) p(A) ! a(A) p(A) ! a(A) p(A) !", "no"}, {"a(A),p(A)", "a(A) p(A) ! p(1)", "no"}, {"B=(!),p(A),!", "=(A,!) p(A) !", "no"},
	})
}

// TestTracesAtEachEnd has goals that end the execution: they are taken.
func TestTracesAtEachEnd(t *testing.T) {
	checkTraces(t, `
p(1).
p(2).
grow(A):-grow(f(A,A,A,A)).
deep(A):-deep(s(A)).
loop(A):-loop([A]).
many(A):-many(B).
many(A).
`, [][3]string{
		{"A is B", "is(A,B)", "inst"}, {"p(A),B is C+A", "p(A) is(A,+(B,1))", "inst"}, {"p(A),A>1,A<b", "p(A) >(1,1) >(2,1) <(2,b)", "type"}, {"p(A),B is 1//(A-2)", "p(A) is(A,//(1,-(1,2))) is(A,//(1,-(2,2)))", "zero"}, {"p(A),B is 499*A+2", "p(A) is(A,+(*(499,1),2)) is(A,+(*(499,2),2))", "range"}, {"p(A),nosuch(A,B)", "p(A) nosuch(1,A)", "unknown"}, {"p", "p", "unknown"},
		// The goal that is too large is left out.
		{"grow(1)", "grow(1) grow(f(1,1,1,1)) grow(f(f(1,1,1,1),f(1,1,1,1),f(1,1,1,1),f(1,1,1,1))) grow(f(f(f(1,1,1,1),f(1,1,1,1),f(1,1,1,1),f(1,1,1,1)),f(f(1,1,1,1),f(1,1,1,1),f(1,1,1,1),f(1,1,1,1)),f(f(1,1,1,1),f(1,1,1,1),f(1,1,1,1),f(1,1,1,1)),f(f(1,1,1,1),f(1,1,1,1),f(1,1,1,1),f(1,1,1,1))))", "large"},
	})
	p := mustProgram(t, "deep(A):-deep(s(A)).", "many(A):-many(B).", "many(A).", "one(1).", "one(2).")
	goals, end := impl.GoalTrace(p, mustQuery(t, "deep(o)"), impl.MaxFuel)
	if len(goals) != impl.MaxDepth-1 || end != impl.EndLarge || !impl.TermValid(goals[len(goals)-1]) {
		t.Errorf("GoalTrace(deep(o)) = %s, %s", formatAll(goals), endName(end))
	}
	goals, end = impl.GoalTrace(p, mustQuery(t, "many(A)"), impl.MaxFuel)
	if len(goals) != impl.MaxFuel || end != impl.EndFuel || formatAll(goals) != strings.TrimPrefix(strings.Repeat(" many(A)", impl.MaxFuel), " ") {
		t.Errorf("GoalTrace(many(A)) = %s, %s", formatAll(goals), endName(end))
	}
	// The execution finds MaxAnswers answers, and looks for one more.
	goals, end = impl.GoalTrace(p, mustQuery(t, "one(A),one(B),one(C),one(D),one(E)"), impl.MaxFuel)
	if len(goals) != 1+2+3+6+11 || end != impl.EndMore {
		t.Errorf("GoalTrace = %d goals, %s", len(goals), endName(end))
	}
}

// TestTracesWithLittleFuel has executions that stop when a goal would be taken: this goal is left out.
func TestTracesWithLittleFuel(t *testing.T) {
	p := mustProgram(t, "p(1).", "p(2).", "a(A):-p(A),!.", "grow(A):-grow(f(A,A,A,A)).")
	for text, all := range map[string][]string{
		"p(A),A>1":      {"p(A)", ">(1,1)", ">(2,1)"},
		"a(A),p(B)":     {"a(A)", "p(A)", "!", "p(A)"},
		"true,!,fail":   {"true", "!", "fail"},
		"p(A),!,a(B)":   {"p(A)", "!", "a(A)", "p(A)", "!"},
		"nosuch(B)":     {"nosuch(A)"},
		"p(A),A is B":   {"p(A)", "is(1,A)"},
		"p(3)":          {"p(3)"},
		"p(A),A=2,a(1)": {"p(A)", "=(1,2)", "=(2,2)", "a(1)", "p(1)", "!"},
	} {
		query := mustQuery(t, text)
		_, end := impl.Solve(p, query, impl.MaxAnswers, impl.MaxFuel)
		for fuel := range len(all) + 4 {
			if fuel < len(all) {
				checkTrace(t, p, query, fuel, strings.Join(all[:fuel], " "), "fuel")
			} else {
				checkTrace(t, p, query, fuel, strings.Join(all, " "), endName(end))
			}
		}
		checkTrace(t, p, query, impl.MaxFuel, strings.Join(all, " "), endName(end))
	}
	// The goal that is too large is taken, too: without fuel for it, there is another end.
	four, _ := impl.GoalTrace(p, mustQuery(t, "grow(1)"), impl.MaxFuel)
	checkTrace(t, p, mustQuery(t, "grow(1)"), 4, formatAll(four), "fuel")
	checkTrace(t, p, mustQuery(t, "grow(1)"), 5, formatAll(four), "large")
	checkTrace(t, p, nil, 0, "", "no")
}

// TestGoalsThatAreLeftOut has goals with 25 to 28 variables, and with 119 to 122 nodes.
func TestGoalsThatAreLeftOut(t *testing.T) {
	a, b := variable(0), variable(1)
	for extra := range 4 {
		// A plain goal with too many variables is called, and one that is built in is solved.
		p := []impl.Clause{{Head: structure("p", several(12))}, {Head: structure("q", several(13+extra))}, {Head: structure("r", a, b), Body: []impl.Term{structure("true")}}}
		for _, middle := range []impl.Term{structure("r", a, b), equal(a, structure("f", b)), structure("\\=", a, b), structure("nosuch", a, b)} {
			query := []impl.Term{structure("p", a), structure("q", b), middle, structure("fail")}
			goals, end := impl.GoalTrace(p, query, impl.MaxFuel)
			var kept []string
			for _, x := range goals {
				if len(impl.TermVars(x)) > 1 {
					kept = append(kept, x.Name)
					if vars := impl.TermVars(x); len(vars) != 25+extra || vars[0] != 0 || vars[len(vars)-1] != 24+extra {
						t.Errorf("a goal with %d variables has %v", 25+extra, vars)
					}
				}
			}
			want := []string{middle.Name}
			if extra > 1 {
				want = nil
			}
			_, wantEnd := impl.Solve(p, query, impl.MaxAnswers, impl.MaxFuel)
			if !slices.Equal(kept, want) || end != wantEnd || goals[0].Name != "p" || goals[1].Name != "q" {
				t.Errorf("GoalTrace(%s) with %d variables = %s, %s", writeAll(query), 25+extra, formatAll(goals), endName(end))
			}
			last := map[string]string{"r": "true fail", "=": "", "\\=": "fail", "nosuch": ""}[middle.Name]
			if got := formatAll(goals[2+len(want):]); got != last {
				t.Errorf("GoalTrace(%s) with %d variables goes on with %q, not %q", writeAll(query), 25+extra, got, last)
			}
		}
		large := []impl.Clause{{Head: structure("go"), Body: []impl.Term{equal(a, bush(117+extra)), structure("q", a, number(1))}}, {Head: structure("q", a, b)}}
		goals, end := impl.GoalTrace(large, mustQuery(t, "go"), impl.MaxFuel)
		if kept := extra < 2; (len(goals) == 3) != kept || (end == impl.EndNo) != kept {
			t.Errorf("GoalTrace of a goal with %d nodes = %s, %s", 119+extra, formatAll(goals), endName(end))
		}
	}
}

// TestTracesOfInvalidExecutions has arguments that are not valid, alone and with others.
func TestTracesOfInvalidExecutions(t *testing.T) {
	p, query := mustProgram(t, "p(1).", "p(2)."), mustQuery(t, "p(A)")
	for _, fuel := range []int{-1, impl.MaxFuel + 1, impl.MaxFuel + 2, -1 << 63, 1<<63 - 1} {
		checkTrace(t, p, query, fuel, "", "invalid")
		checkTrace(t, nil, nil, fuel, "", "invalid")
	}
	for _, bad := range invalidClauses() {
		checkTrace(t, []impl.Clause{bad}, query, 10, "", "invalid")
		checkTrace(t, append(slices.Clone(p), bad), nil, 0, "", "invalid")
	}
	for _, bad := range invalidQueries() {
		checkTrace(t, p, bad, 10, "", "invalid")
		checkTrace(t, nil, bad, 0, "", "invalid")
	}
	checkTrace(t, slices.Repeat(p[:1], impl.MaxClauses+1), query, 10, "", "invalid")
	checkTrace(t, slices.Repeat(p[:1], impl.MaxClauses), query, 10, "p(A)", "no")
}
