package tests

import (
	"slices"
	"strings"
	"testing"

	"loop.example/prologserver/impl"
)

// compareRun compares RunCode with Solve: the answers, one by one, and the end.
func compareRun(t *testing.T, p []impl.Clause, query []impl.Term, most int, fuel int) {
	t.Helper()
	want, wantEnd := impl.Solve(p, query, most, fuel)
	got, end := impl.RunCode(p, query, most, fuel)
	if end != wantEnd || !slices.EqualFunc(got, want, impl.AnswerSame) {
		t.Fatalf("RunCode(%s, %d, %d) = %q, %s, not %q, %s, for\n%s", writeAll(query), most, fuel, formatAnswers(query, got), endName(end), formatAnswers(query, want), endName(wantEnd), impl.FormatProgram(p))
	}
}

// fuelsFor returns no fuel, each fuel up to a few more than an execution takes, and the greatest one, with those that are not valid.
func fuelsFor(p []impl.Clause, query []impl.Term) []int {
	taken, _ := impl.CountCode(p, query, impl.MaxAnswers, impl.MaxFuel)
	var fuels []int
	for fuel := -1; fuel <= min(taken.Goals+4, impl.MaxFuel-1); fuel++ {
		fuels = append(fuels, fuel)
	}
	return append(fuels, impl.MaxFuel, impl.MaxFuel+1)
}

// compareLimits compares RunCode with Solve for every most and fuel. It returns the number of comparisons.
func compareLimits(t *testing.T, p []impl.Clause, query []impl.Term) int {
	t.Helper()
	count := 0
	for _, fuel := range fuelsFor(p, query) {
		for most := -1; most <= impl.MaxAnswers+1; most++ {
			compareRun(t, p, query, most, fuel)
			count++
		}
	}
	return count
}

// TestRunCodeOfSmallHeads has heads that do not fit behind their first argument, and terms that would contain themselves.
func TestRunCodeOfSmallHeads(t *testing.T) {
	checkTable(t, `
p(A,f(A)).
q(A,A,1).
q(A,B,2).
q(A,f(B),B).
r(f(A,1),A,B).
r(f(2,A),B,A).
r(A,B,B).
s(A,B,f(A,B)).
s(A,B,k(f(A),g(B))).
u(f(A),A).
u(f(A,B),A).
u(7,A).
u(f,A).
v(A,A,A,A).
`, [][3]string{
		{"p(A,B)", "A=A;B=f(A)", "no"}, {"p(B,B)", "", "no"}, {"p(f(A),A)", "", "no"}, {"p(A,f(f(A)))", "", "no"}, {"p(A,f(B))", "A=A;B=A", "no"},
		// A clause that fails behind its first argument leaves no binding behind.
		{"q(A,7,2)", "A=A", "no"}, {"q(A,B,2)", "A=A;B=B & A=A;B=f(2)", "no"}, {"q(A,B,3)", "A=A;B=f(3)", "no"}, {"q(A,B,C)", "A=A;B=A;C=1 & A=A;B=B;C=2 & A=A;B=f(B);C=B", "no"}, {"q(A,f(A),A)", "A=2 & A=A", "no"}, {"q(A,A,f(A))", "", "no"}, {"q(A,B,f(B))", "", "no"},
		{"r(f(A,B),3,4)", "A=3;B=1 & A=2;B=4", "no"}, {"r(f(A,B),A,B)", "A=A;B=1 & A=2;B=A & A=A;B=A", "no"}, {"r(f(A,A),2,1)", "", "no"}, {"r(f(A,9),B,B)", "A=2;B=9 & A=A;B=B", "no"}, {"r(f(5,9),A,B)", "A=A;B=A", "no"}, {"r(A,B,A)", "A=f(A,1);B=A & A=A;B=A", "no"},
		// A variable of a head would contain itself, directly or through another one.
		{"s(A,B,A)", "", "no"}, {"s(A,B,B)", "", "no"}, {"s(A,A,A)", "", "no"}, {"s(A,B,C)", "A=A;B=B;C=f(A,B) & A=A;B=B;C=k(f(A),g(B))", "no"}, {"s(f(C),f(D),C)", "", "no"}, {"s(A,f(A),f(B,B))", "", "no"}, {"s(A,B,k(C,C))", "", "no"}, {"s(A,B,k(C,D))", "A=A;B=B;C=f(A);D=g(B)", "no"},
		// Structures with the same name and another number of arguments, a number and an atom.
		{"u(f(1),A)", "A=1", "no"}, {"u(f(1,2),A)", "A=1", "no"}, {"u(7,1)", "yes", "no"}, {"u(8,1)", "", "no"}, {"u(f,1)", "yes", "no"}, {"u(g(1),A)", "", "no"}, {"u(f(1,2,3),A)", "", "no"}, {"u(A,1)", "A=f(1) & A=f(1,A) & A=7 & A=f", "no"}, {"u(f(A),A)", "A=A", "no"},
		{"v(A,B,C,D)", "A=A;B=A;C=A;D=A", "no"}, {"v(A,B,f(B),C)", "", "no"}, {"v(A,B,f(C),f(D))", "A=f(A);B=f(A);C=A;D=A", "no"}, {"v(A,B,f(A),C)", "", "no"}, {"v(1,A,B,2)", "", "no"}, {"v(A,A,A,A)", "A=A", "no"},
	})
}

// TestRunCodeOfManyPrograms compares the execution of code with the search for random programs and queries, with
// each most and fuel, and in some of them with all of these together.
func TestRunCodeOfManyPrograms(t *testing.T) {
	t.Parallel()
	s := source{state: 61}
	met := make([]int, len(endNames))
	count, together := 0, 0
	for i := range 3000 {
		p, query := s.knownProgram(), s.knownQuery()
		_, end := impl.RunCode(p, query, impl.MaxAnswers, impl.MaxFuel)
		met[end]++
		fuels := fuelsFor(p, query)
		if i%20 == 0 && len(fuels) < 60 {
			count += compareLimits(t, p, query)
			together++
			continue
		}
		for most := -1; most <= impl.MaxAnswers+1; most++ {
			compareRun(t, p, query, most, impl.MaxFuel)
			count++
		}
		for _, fuel := range fuels {
			// All of these would take too long for the longest executions.
			if len(fuels) >= 60 && i%20 != 0 && s.below(30) != 0 {
				continue
			}
			compareRun(t, p, query, impl.MaxAnswers, fuel)
			compareRun(t, p, query, s.below(impl.MaxAnswers+3)-1, fuel)
			count += 2
		}
	}
	for end, found := range met[:impl.EndInvalid] {
		if found == 0 {
			t.Errorf("no execution has the end %s", endName(end))
		}
	}
	if count < 150000 || together < 100 {
		t.Errorf("only %d executions were compared, and those of %d queries with all limits together", count, together)
	}
}

// TestExecutionsStepByStep compares executions with those of slowMachine, with all that they use and the goals that they take.
func TestExecutionsStepByStep(t *testing.T) {
	t.Parallel()
	s := source{state: 62}
	met := make([]int, len(endNames))
	chosen, back := 0, 0
	for range 15000 {
		p, query, most, fuel := s.knownProgram(), s.knownQuery(), s.below(impl.MaxAnswers+1), s.below(60)
		want := slowRun(p, query, most, fuel)
		about := writeAll(query) + " for\n" + impl.FormatProgram(p)
		if got, end := impl.RunCode(p, query, most, fuel); end != want.end || !slices.EqualFunc(got, want.answers, impl.AnswerSame) {
			t.Fatalf("RunCode with %d and %d = %q, %s, not %q, %s, of %s", most, fuel, formatAnswers(query, got), endName(end), formatAnswers(query, want.answers), endName(want.end), about)
		}
		if got, end := impl.CountCode(p, query, most, fuel); end != want.end || got != want.counts {
			t.Fatalf("CountCode with %d and %d = %+v, %s, not %+v, %s, of %s", most, fuel, got, endName(end), want.counts, endName(want.end), about)
		}
		want = slowRun(p, query, impl.MaxAnswers, fuel)
		if got, end := impl.GoalTrace(p, query, fuel); end != want.end || formatAll(got) != strings.Join(want.trace, " ") {
			t.Fatalf("GoalTrace with %d = %s, %s, not %s, %s, of %s", fuel, formatAll(got), endName(end), strings.Join(want.trace, " "), endName(want.end), about)
		}
		met[want.end]++
		if want.counts.Choices > 1 {
			chosen++
		}
		if want.counts.Backs > 2 {
			back++
		}
	}
	for end, found := range met[:impl.EndInvalid] {
		if found < 10 {
			t.Errorf("only %d executions have the end %s", found, endName(end))
		}
	}
	if chosen < 1000 || back < 1000 {
		t.Errorf("only %d executions have several choices, and %d go back often", chosen, back)
	}
}

// formatCodes returns the texts of the code of several clauses, with a line between them.
func formatCodes(codes [][]impl.Instr) string {
	var texts []string
	for _, code := range codes {
		texts = append(texts, impl.FormatCode(code))
	}
	return strings.Join(texts, "--\n")
}

func TestLoadProgram(t *testing.T) {
	for text, want := range map[string]string{
		"p(1).":           "getint 1 0\nend\n",
		"p.\np.\nq:-p,!.": "end\n--\nend\n--\ncall 0 p\ncut\nend\n",
		"app([],A,A).\napp([A|B],C,[A|D]):-app(B,C,D).": "getval 1 2\ngetstr 0 0 []\nend\n--\ngetstr 2 0 .\nunivar 4\nunivar 5\ngetstr 2 2 .\nunival 4\nunivar 6\nputval 5 0\nputval 1 1\nputval 6 2\ncall 3 app\nend\n",
		"p(A):-A is B+1.\nq(f(A),A).":                   "putval 0 0\nsetstr 2 4 +\nunivar 5\nuniint 1\nputval 4 1\nbuilt 2 is\nend\n--\ngetstr 1 0 f\nunival 1\nend\n",
	} {
		codes, ok := impl.LoadProgram(programOf(t, text))
		if got := formatCodes(codes); !ok || got != want {
			t.Errorf("LoadProgram(%q) = %q, %v, not %q", text, got, ok, want)
		}
	}
	for _, p := range [][]impl.Clause{nil, {}} {
		if codes, ok := impl.LoadProgram(p); !ok || len(codes) > 0 {
			t.Errorf("LoadProgram of no clauses = %v, %v", codes, ok)
		}
	}
	largest := repeated(impl.MaxGoals, bush(impl.MaxNodes))
	for clauses := range impl.MaxClauses + 3 {
		p := append(mustProgram(t, "p(1).", "p(A):-p(2)."), slices.Repeat([]impl.Clause{largest}, clauses)...)
		codes, ok := impl.LoadProgram(p)
		if want := len(p) <= impl.MaxClauses; ok != want || ok && len(codes) != len(p) || !ok && len(codes) > 0 {
			t.Errorf("LoadProgram of %d clauses = %d, %v", len(p), len(codes), ok)
		}
		for i, code := range codes {
			if impl.FormatCode(code) != slowCode(p[i]) {
				t.Errorf("LoadProgram = %q for the clause %d", impl.FormatCode(code), i)
			}
		}
	}
	for name, bad := range invalidClauses() {
		for _, p := range [][]impl.Clause{{bad}, append(mustProgram(t, "p.", "q."), bad), append([]impl.Clause{bad}, mustProgram(t, "p.")...)} {
			if codes, ok := impl.LoadProgram(p); ok || len(codes) > 0 {
				t.Errorf("%s: LoadProgram = %v, %v", name, codes, ok)
			}
		}
	}
}

func TestLoadManyPrograms(t *testing.T) {
	s := source{state: 63}
	for range 2000 {
		p := s.knownProgram()
		codes, ok := impl.LoadProgram(p)
		if !ok || len(codes) != len(p) {
			t.Fatalf("LoadProgram = %d, %v, for\n%s", len(codes), ok, impl.FormatProgram(p))
		}
		for i, code := range codes {
			if impl.FormatCode(code) != slowCode(p[i]) {
				t.Fatalf("LoadProgram = %q for %s", impl.FormatCode(code), impl.FormatClause(p[i]))
			}
		}
	}
}

// TestExecutionsInTime has executions with terms that nothing can visit, and with much that is bound and taken back.
func TestExecutionsInTime(t *testing.T) {
	p := mustProgram(t, "big(0,a).", "big(A,f(B,B,B,B)):-A>0,C is A-1,big(C,B).", "in(A):-big(90,A),r(f(A,A)).", "r(f(A,A)).", "back:-big(90,A),fail.", "on:-big(90,A),!,r(f(f(1),f(1))).", "fast(A):-fast(f(A,A,A,A)).")
	for text, want := range map[string]string{"big(90,A)": "large", "in(A)": "large", "big(90,A),r(A)": "large", "big(90,A),B=[A|C]": "large", "back": "no", "on": "no", "fast(A)": "large"} {
		query := mustQuery(t, text)
		inTime(t, func() {
			for _, most := range []int{1, impl.MaxAnswers} {
				compareRun(t, p, query, most, impl.MaxFuel)
			}
			_, end := impl.RunCode(p, query, 1, impl.MaxFuel)
			_, counted := impl.CountCode(p, query, 1, impl.MaxFuel)
			_, traced := impl.GoalTrace(p, query, impl.MaxFuel)
			if endName(end) != want || end != counted || end != traced {
				t.Errorf("the execution of %s ends with %s, %s and %s", text, endName(end), endName(counted), endName(traced))
			}
		})
	}
	// All heads fit but for their last instruction, when much has been unified.
	x, a := bush(impl.MaxNodes/2-2), variable(0)
	grown := []impl.Clause{{Head: structure("same", a, a)}, {Head: structure("go", a), Body: slices.Repeat([]impl.Term{structure("same", x, x)}, impl.MaxGoals)}}
	for n := range impl.MaxClauses - 2 {
		grown = append(grown, impl.Clause{Head: structure("m", a, a, number(n)), Body: []impl.Term{structure("go", a), structure("m", x, x, number(99))}})
	}
	query := []impl.Term{structure("go", a), structure("m", x, x, variable(1)), structure("fail")}
	inTime(t, func() {
		compareRun(t, grown, query, impl.MaxAnswers, impl.MaxFuel)
		compareRun(t, grown, query, 0, impl.MaxFuel)
	})
}

func TestExecutionsShareNoMemory(t *testing.T) {
	const want = "A=f(g(1),A);B=g(1);C=f(g(1),B) & A=h(g(2));B=h(g(2));C=k"
	const goals, code = "p(A,B,C) =(h(A),h(g(2)))", "getstr 1 1 f\nuniint 1\ngetstr 1 2 f\nunival 0\nend\n--\nend\n"
	p := mustProgram(t, "p(f(g(1),A),g(1),f(g(1),B)).", "p(h(A),h(A),k):-h(A)=h(g(2)).")
	loaded := mustProgram(t, "q(A,f(1),f(A)).", "q.")
	query := mustQuery(t, "p(A,B,C)")
	texts := impl.FormatProgram(p) + impl.FormatProgram(loaded) + writeAll(query)
	first, _ := impl.RunCode(p, query, 5, 5)
	second, _ := impl.RunCode(p, query, 5, 5)
	trace, _ := impl.GoalTrace(p, query, 5)
	other, _ := impl.GoalTrace(p, query, 5)
	impl.CountCode(p, query, 5, 5)
	codes, _ := impl.LoadProgram(loaded)
	otherCodes, _ := impl.LoadProgram(loaded)
	if got := impl.FormatProgram(p) + impl.FormatProgram(loaded) + writeAll(query); got != texts {
		t.Errorf("an argument was changed: %s", got)
	}
	overwriteClauses(p)
	overwriteClauses(loaded)
	overwrite(query)
	query = mustQuery(t, "p(A,B,C)")
	if got := formatAnswers(query, first); got != want {
		t.Errorf("RunCode = %s, not %s, or it shares memory with an argument", got, want)
	}
	if formatAll(trace) != goals || formatCodes(codes) != code {
		t.Errorf("GoalTrace = %s, and LoadProgram = %q, or they share memory with an argument", formatAll(trace), formatCodes(codes))
	}
	overwrite(first[1].Values[0].Kids)
	if got := formatAnswers(query, first); got != strings.Replace(want, "A=h(g(2))", "A=h(77)", 1) {
		t.Errorf("parts of the answers share memory: %s", got)
	}
	overwrite(trace[1].Kids[:1:1])
	if got := formatAll(trace); got != "p(A,B,C) =(77,h(g(2)))" {
		t.Errorf("parts of a trace share memory: %s", got)
	}
	for _, a := range first[:cap(first)] {
		overwrite(a.Values)
	}
	overwrite(trace)
	for _, c := range codes[:cap(codes)] {
		overwriteCode(c)
	}
	if formatAnswers(query, second) != want || formatAll(other) != goals || formatCodes(otherCodes) != code {
		t.Errorf("two results share memory: %s, %s or %q", formatAnswers(query, second), formatAll(other), formatCodes(otherCodes))
	}
	codes, _ = impl.LoadProgram(mustProgram(t, "p(1).", "p(1).", "p(1)."))
	overwriteCode(codes[1])
	if got := impl.FormatCode(codes[0]) + impl.FormatCode(codes[2]); got != "getint 1 0\nend\ngetint 1 0\nend\n" {
		t.Errorf("the code of two clauses shares memory: %q", got)
	}
}

// TestExecutionsChangeNothing has arguments with memory beyond their length.
func TestExecutionsChangeNothing(t *testing.T) {
	kids := []impl.Term{structure("f", variable(4)), variable(9), number(7), number(8)}
	goal := impl.Term{Kind: impl.TermStruct, Name: "q", Kids: kids[:2]}
	goals := []impl.Term{goal, structure("!"), number(5), number(6)}
	p := []impl.Clause{{Head: goal, Body: goals[1:2]}, {Head: goal}, {Head: structure("last")}}
	impl.LoadProgram(p[:2])
	for fuel := range 4 {
		for _, query := range [][]impl.Term{goals[:1], goals[:2]} {
			impl.RunCode(p[:2], query, 2, fuel)
			impl.CountCode(p[:2], query, 2, fuel)
			impl.GoalTrace(p[:2], query, fuel)
		}
	}
	if got := formatAll(kids) + " " + formatAll(goals); got != "f(E) J 7 8 q(f(E),J) ! 5 6" {
		t.Errorf("an argument was changed: %s", got)
	}
	if got := impl.FormatProgram(p); got != "q(f(E),J):-!.\nq(f(E),J).\nlast.\n" {
		t.Errorf("an argument was changed: %s", got)
	}
}
