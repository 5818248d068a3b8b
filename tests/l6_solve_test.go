package tests

import (
	"slices"
	"strings"
	"testing"

	"loop.example/prologserver/impl"
)

// endNames has the names of the ends, in their order.
var endNames = []string{"no", "more", "fuel", "large", "inst", "type", "zero", "range", "unknown", "invalid"}

func endName(end int) string {
	if end < 0 || end >= len(endNames) {
		return "no end"
	}
	return endNames[end]
}

// mustQuery returns the query with a text.
func mustQuery(t *testing.T, text string) []impl.Term {
	t.Helper()
	query, ok := impl.ParseQuery(text)
	if !ok || !impl.QueryValid(query) {
		t.Fatalf("ParseQuery(%q) = %v, %v", text, query, ok)
	}
	return query
}

// programOf returns the program with a text, in which each line is a clause.
func programOf(t *testing.T, text string) []impl.Clause {
	t.Helper()
	return mustProgram(t, strings.Split(strings.TrimSpace(text), "\n")...)
}

// formatAnswers returns the texts of answers with & between them.
func formatAnswers(query []impl.Term, answers []impl.Answer) string {
	var texts []string
	for _, a := range answers {
		texts = append(texts, impl.FormatAnswer(query, a))
	}
	return strings.Join(texts, " & ")
}

// solvers has the functions that answer queries, by their names.
func solvers() map[string]func(p []impl.Clause, query []impl.Term, most int, fuel int) ([]impl.Answer, int) {
	return map[string]func(p []impl.Clause, query []impl.Term, most int, fuel int) ([]impl.Answer, int){"Solve": impl.Solve, "SolveIndexed": impl.SolveIndexed, "RunCode": impl.RunCode}
}

// checkSolve checks the answers, as formatAnswers writes them, and the end, and compares sessions with this fuel.
func checkSolve(t *testing.T, p []impl.Clause, query []impl.Term, most int, fuel int, want string, end string) {
	t.Helper()
	for name, solve := range solvers() {
		answers, got := solve(p, query, most, fuel)
		if text := formatAnswers(query, answers); text != want || endName(got) != end {
			t.Errorf("%s(%s, %d, %d) = %q, %s, not %q, %s", name, writeAll(query), most, fuel, text, endName(got), want, end)
		}
	}
	compareDrains(t, p, query, fuel, slicings())
}

// writeAll returns the texts of goals with commas between them.
func writeAll(query []impl.Term) string {
	var texts []string
	for _, x := range query {
		texts = append(texts, impl.WriteTerm(x))
	}
	return strings.Join(texts, ",")
}

// checkTable checks rows of a query, its answers and its end, without limits that matter, and
// compares the execution of code and sessions with the search for all limits.
func checkTable(t *testing.T, program string, rows [][3]string) {
	t.Helper()
	p := programOf(t, program)
	for _, row := range rows {
		query := mustQuery(t, row[0])
		checkSolve(t, p, query, impl.MaxAnswers, impl.MaxFuel, row[1], row[2])
		compareLimits(t, p, query)
		compareSessions(t, p, query)
	}
}

func TestEnds(t *testing.T) {
	ends := []int{impl.EndNo, impl.EndMore, impl.EndFuel, impl.EndLarge, impl.EndInst, impl.EndType, impl.EndZero, impl.EndRange, impl.EndUnknown, impl.EndInvalid}
	for i, end := range ends {
		if end != i {
			t.Errorf("the end %s is %d", endName(i), end)
		}
	}
	if impl.MaxFuel != 300 || impl.MaxAnswers != 20 {
		t.Errorf("the limits are %d and %d", impl.MaxFuel, impl.MaxAnswers)
	}
}

const lists = `
app([],A,A).
app([A|B],C,[A|D]):-app(B,C,D).
mem(A,[A|B]).
mem(A,[B|C]):-mem(A,C).
rev([],[]).
rev([A|B],C):-rev(B,D),app(D,[A],C).
len([],0).
len([A|B],C):-len(B,D),C is D+1.
sel(A,[A|B],B).
sel(A,[B|C],[B|D]):-sel(A,C,D).
perm([],[]).
perm(A,[B|C]):-sel(B,A,D),perm(D,C).
last([A],A).
last([A|B],C):-last(B,C).
`

func TestSolveWithLists(t *testing.T) {
	checkTable(t, lists, [][3]string{
		{"app([1,2],[3],A)", "A=[1,2,3]", "no"},
		{"app(A,B,[1,2])", "A=[];B=[1,2] & A=[1];B=[2] & A=[1,2];B=[]", "no"},
		{"app(A,[3],[1,2,3])", "A=[1,2]", "no"},
		{"app(A,[4],[1,2,3])", "", "no"},
		{"app([1],[2],[1,2])", "yes", "no"},
		{"app([1],[2],[2,1])", "", "no"},
		{"app([A|B],[C],[1,2,3])", "A=1;B=[2];C=3", "no"},
		{"mem(A,[1,2,3])", "A=1 & A=2 & A=3", "no"},
		{"mem(2,[1,2,3,2])", "yes & yes", "no"},
		{"mem(f(A),[f(1),g(2),f(3)])", "A=1 & A=3", "no"},
		{"mem(A,[])", "", "no"},
		{"mem(A,[1,2]),mem(B,[A,3])", "A=1;B=1 & A=1;B=3 & A=2;B=2 & A=2;B=3", "no"},
		{"mem(A,[1,2,3]),mem(A,[3,2])", "A=2 & A=3", "no"},
		{"mem(A,[3,1,2]),A>1,B is A*A", "A=3;B=9 & A=2;B=4", "no"},
		{"rev([1,2,3],A)", "A=[3,2,1]", "no"},
		{"len([a,b,c],A)", "A=3", "no"},
		{"len([],A),len([A],B)", "A=0;B=1", "no"},
		{"sel(A,[1,2,3],B)", "A=1;B=[2,3] & A=2;B=[1,3] & A=3;B=[1,2]", "no"},
		{"perm([1,2,3],A)", "A=[1,2,3] & A=[1,3,2] & A=[2,1,3] & A=[2,3,1] & A=[3,1,2] & A=[3,2,1]", "no"},
		{"last([1,2,3],A)", "A=3", "no"},
		{"last(A,1),A=[B,C]", "A=[A,1];B=A;C=1", "large"},
		{"rev([A,B],[1,C])", "A=A;B=1;C=A", "no"},
	})
}

const family = `
par(ann,bob).
par(ann,cleo).
par(bob,dan).
par(cleo,eve).
par(cleo,finn).
anc(A,B):-par(A,B).
anc(A,B):-par(A,C),anc(C,B).
sib(A,B):-par(C,A),par(C,B),A\=B.
nat(o).
nat(s(A)):-nat(A).
add(o,A,A).
add(s(A),B,s(C)):-add(A,B,C).
fac(0,1).
fac(A,B):-A>0,C is A-1,fac(C,D),B is A*D.
abs(A,B):-A<0,!,B is 0-A.
abs(A,A).
`

func TestSolveWithFactsAndNumbers(t *testing.T) {
	checkTable(t, family, [][3]string{
		{"par(ann,A)", "A=bob & A=cleo", "no"},
		{"par(A,B)", "A=ann;B=bob & A=ann;B=cleo & A=bob;B=dan & A=cleo;B=eve & A=cleo;B=finn", "no"},
		{"par(B,A)", "B=ann;A=bob & B=ann;A=cleo & B=bob;A=dan & B=cleo;A=eve & B=cleo;A=finn", "no"},
		{"par(A,A)", "", "no"},
		{"par(A,B),par(B,C)", "A=ann;B=bob;C=dan & A=ann;B=cleo;C=eve & A=ann;B=cleo;C=finn", "no"},
		{"anc(ann,A)", "A=bob & A=cleo & A=dan & A=eve & A=finn", "no"},
		{"anc(A,finn)", "A=cleo & A=ann", "no"},
		{"anc(dan,A)", "", "no"},
		{"sib(A,B)", "A=bob;B=cleo & A=cleo;B=bob & A=eve;B=finn & A=finn;B=eve", "no"},
		{"add(A,B,s(s(o)))", "A=o;B=s(s(o)) & A=s(o);B=s(o) & A=s(s(o));B=o", "no"},
		{"add(s(o),s(o),A)", "A=s(s(o))", "no"},
		{"add(A,o,A)", "A=o & A=s(o) & A=s(s(o)) & A=s(s(s(o))) & A=s(s(s(s(o)))) & A=s(s(s(s(s(o))))) & A=s(s(s(s(s(s(o)))))) & A=s(s(s(s(s(s(s(o))))))) & A=s(s(s(s(s(s(s(s(o)))))))) & A=s(s(s(s(s(s(s(s(s(o))))))))) & A=s(s(s(s(s(s(s(s(s(s(o)))))))))) & A=s(s(s(s(s(s(s(s(s(s(s(o))))))))))) & A=s(s(s(s(s(s(s(s(s(s(s(s(o)))))))))))) & A=s(s(s(s(s(s(s(s(s(s(s(s(s(o))))))))))))) & A=s(s(s(s(s(s(s(s(s(s(s(s(s(s(o)))))))))))))) & A=s(s(s(s(s(s(s(s(s(s(s(s(s(s(s(o))))))))))))))) & A=s(s(s(s(s(s(s(s(s(s(s(s(s(s(s(s(o)))))))))))))))) & A=s(s(s(s(s(s(s(s(s(s(s(s(s(s(s(s(s(o))))))))))))))))) & A=s(s(s(s(s(s(s(s(s(s(s(s(s(s(s(s(s(s(o)))))))))))))))))) & A=s(s(s(s(s(s(s(s(s(s(s(s(s(s(s(s(s(s(s(o)))))))))))))))))))", "more"},
		{"fac(5,A)", "A=120", "no"},
		{"fac(6,A)", "A=720", "no"},
		{"fac(7,A)", "", "range"},
		{"fac(3,A),A>5,B is A//4", "A=6;B=1", "no"},
		{"abs(-5,A)", "A=5", "no"},
		{"abs(5,A)", "A=5", "no"},
		{"abs(5,A),abs(-7,B)", "A=5;B=7", "no"},
	})
}

// TestEachEnd has searches that find answers before they end, and others that do not.
func TestEachEnd(t *testing.T) {
	t.Parallel()
	checkTable(t, `
p(1).
p(2).
p(3).
inst(1,A):-A=7.
inst(2,A):-A is B+1.
kind(1,a).
kind(2,A):-A is foo.
zero(1,b).
zero(2,A):-A is 1 mod 0.
over(1,c).
over(2,A):-A is 999+1.
lost(1,d).
lost(2,A):-nosuch(A).
loop(1,e).
loop(2,A):-loop(2,A).
grow(1,f).
grow(2,A):-grow(2,s(A)).
`, [][3]string{
		{"p(A)", "A=1 & A=2 & A=3", "no"},
		{"p(A),A>3", "", "no"},
		{"p(4)", "", "no"},
		{"fail", "", "no"},
		{"p(A),fail", "", "no"},
		{"p(A),p(B),p(C)", "A=1;B=1;C=1 & A=1;B=1;C=2 & A=1;B=1;C=3 & A=1;B=2;C=1 & A=1;B=2;C=2 & A=1;B=2;C=3 & A=1;B=3;C=1 & A=1;B=3;C=2 & A=1;B=3;C=3 & A=2;B=1;C=1 & A=2;B=1;C=2 & A=2;B=1;C=3 & A=2;B=2;C=1 & A=2;B=2;C=2 & A=2;B=2;C=3 & A=2;B=3;C=1 & A=2;B=3;C=2 & A=2;B=3;C=3 & A=3;B=1;C=1 & A=3;B=1;C=2", "more"},
		{"inst(2,A)", "", "inst"},
		{"p(A),inst(A,B)", "A=1;B=7", "inst"},
		{"A is B", "", "inst"},
		{"A>1,p(A)", "", "inst"},
		{"arg(A,f(1),1)", "", "inst"},
		{"arg(1,A,1)", "", "inst"},
		{"kind(2,A)", "", "type"},
		{"p(A),kind(A,B)", "A=1;B=a", "type"},
		{"a<1", "", "type"},
		{"arg(1,a,A)", "", "type"},
		{"p(A),zero(A,B)", "A=1;B=b", "zero"},
		{"p(A),B is 1//(A-2)", "A=1;B=-1", "zero"},
		{"p(A),over(A,B)", "A=1;B=c", "range"},
		{"p(A),B is 499*A", "A=1;B=499 & A=2;B=998", "range"},
		{"p(A),lost(A,B)", "A=1;B=d", "unknown"},
		{"nosuch", "", "unknown"},
		{"p(A),p(A,A)", "", "unknown"},
		{"p", "", "unknown"},
		{"p(4),nosuch", "", "no"},
		{"p(A),loop(A,B)", "A=1;B=e", "fuel"},
		{"loop(2,A),nosuch", "", "fuel"},
		{"p(A),grow(A,B)", "A=1;B=f", "large"},
	})
}

// TestInvalidSearches has arguments that are not valid, alone and with others that would end the search at once.
func TestInvalidSearches(t *testing.T) {
	p, query := mustProgram(t, "p(1)."), mustQuery(t, "p(A)")
	check := func(p []impl.Clause, query []impl.Term, most int, fuel int) {
		t.Helper()
		for name, solve := range solvers() {
			if answers, end := solve(p, query, most, fuel); len(answers) > 0 || end != impl.EndInvalid {
				t.Errorf("%s(%v, %v, %d, %d) = %v, %s", name, p, query, most, fuel, answers, endName(end))
			}
		}
	}
	for _, n := range []int{-1, impl.MaxAnswers + 1, impl.MaxAnswers + 2, -1 << 63, 1<<63 - 1} {
		check(p, query, n, 10)
		check(p, query, n, 0)
		check(p, nil, n, 0)
	}
	for _, n := range []int{-1, impl.MaxFuel + 1, impl.MaxFuel + 2, -1 << 63, 1<<63 - 1} {
		check(p, query, 10, n)
		check(p, query, 0, n)
		check(p, nil, 0, n)
	}
	for name, bad := range invalidClauses() {
		if impl.ClauseValid(bad) {
			t.Errorf("%s: ClauseValid = true", name)
		}
		check([]impl.Clause{bad}, query, 10, 10)
		check([]impl.Clause{p[0], bad}, nil, 10, 10)
		check([]impl.Clause{bad, p[0]}, query, 0, 0)
	}
	check(slices.Repeat(p, impl.MaxClauses+1), query, 10, 10)
	for _, bad := range invalidQueries() {
		check(p, bad, 10, 10)
		check(nil, bad, 0, 0)
	}
	checkSolve(t, slices.Repeat(p, impl.MaxClauses), query, impl.MaxAnswers, impl.MaxFuel, strings.Repeat(" & A=1", impl.MaxClauses)[3:], "no")
	checkSolve(t, nil, nil, 1, 0, "yes", "no")
}

// invalidQueries returns lists of terms that are not queries, by what is wrong with them.
func invalidQueries() map[string][]impl.Term {
	fine := structure("p", variable(0))
	bad := map[string][]impl.Term{
		"a variable":      {variable(0)},
		"a number":        {fine, number(1)},
		"a list":          {structure(".", fine, structure("[]")), fine},
		"a sum":           {structure("+", number(1), number(2))},
		"the empty list":  {structure("[]")},
		"= of 1 argument": {fine, structure("=", fine)},
		"the cut of a":    {structure("!", structure("a"))},
		"7 goals":         slices.Repeat([]impl.Term{fine}, impl.MaxGoals+1),
		"7 cuts":          slices.Repeat([]impl.Term{structure("!")}, impl.MaxGoals+1),
		"many goals":      slices.Repeat([]impl.Term{fine}, 100000),
	}
	for name, x := range invalidTerms() {
		bad[name] = []impl.Term{x}
		bad[name+" as last goal"] = []impl.Term{fine, structure("!"), x}
		bad[name+" in a goal"] = []impl.Term{structure("p", x), fine}
		bad[name+" in a goal that is built in"] = []impl.Term{fine, structure("=", variable(1), x)}
	}
	return bad
}

func TestMost(t *testing.T) {
	p := mustProgram(t, "p(1).", "p(2).", "p(3).", "last(1).", "loop:-loop.", "two(1).", "two(2).", "two(3):-loop.", "big(1).", "big(A):-A is B.")
	cases := []struct {
		query string
		most  int
		want  string
		end   string
	}{
		{"p(A)", 0, "", "more"}, {"p(A)", 1, "A=1", "more"}, {"p(A)", 2, "A=1 & A=2", "more"}, {"p(A)", 3, "A=1 & A=2 & A=3", "no"}, {"p(A)", 4, "A=1 & A=2 & A=3", "no"}, {"p(A)", impl.MaxAnswers, "A=1 & A=2 & A=3", "no"},
		{"p(4)", 0, "", "no"}, {"p(4)", 1, "", "no"}, {"true", 0, "", "more"}, {"true", 1, "yes", "no"}, {"last(A)", 0, "", "more"}, {"last(A)", 1, "A=1", "no"}, {"fail", 0, "", "no"},
		{"p(A),!", 1, "A=1", "no"}, {"p(A),!", 0, "", "more"}, {"p(A),A>1", 1, "A=2", "more"}, {"p(A),A>1", 2, "A=2 & A=3", "no"}, {"p(A),A<2", 1, "A=1", "no"}, {"p(A),A<1", 0, "", "no"},
		// A search goes on until the answer behind the last one, or another end.
		{"two(A)", 0, "", "more"}, {"two(A)", 1, "A=1", "more"}, {"two(A)", 2, "A=1 & A=2", "fuel"}, {"two(A)", 3, "A=1 & A=2", "fuel"}, {"loop", 0, "", "fuel"},
		{"big(A)", 0, "", "more"}, {"big(A)", 1, "A=1", "inst"}, {"nosuch", 0, "", "unknown"}, {"A is 1//0", 0, "", "zero"},
	}
	for _, c := range cases {
		checkSolve(t, p, mustQuery(t, c.query), c.most, impl.MaxFuel, c.want, c.end)
	}
	for most := range impl.MaxAnswers + 1 {
		query := mustQuery(t, "p(A),p(B),p(C)")
		answers, end := impl.Solve(p, query, most, impl.MaxFuel)
		compareRun(t, p, query, most, impl.MaxFuel)
		compareDrains(t, p, query, most, slicings())
		if len(answers) != most || end != impl.EndMore {
			t.Errorf("Solve(%s, %d) = %d answers, %s", writeAll(query), most, len(answers), endName(end))
		}
	}
	for clauses := range impl.MaxClauses + 1 {
		facts := slices.Repeat(mustProgram(t, "p."), clauses)
		for most := range impl.MaxAnswers + 1 {
			end := "no"
			switch {
			case clauses == 0:
				end = "unknown"
			case clauses > most:
				end = "more"
			}
			checkSolve(t, facts, mustQuery(t, "p"), most, 1, strings.TrimPrefix(strings.Repeat(" & yes", min(most, clauses)), " & "), end)
		}
	}
}

// checkFuel checks that a search takes this number of goals before it ends.
func checkFuel(t *testing.T, p []impl.Clause, query []impl.Term, goals int) {
	t.Helper()
	want, end := impl.Solve(p, query, impl.MaxAnswers, impl.MaxFuel)
	for fuel := range impl.MaxFuel + 1 {
		answers, got := impl.Solve(p, query, impl.MaxAnswers, fuel)
		compareRun(t, p, query, impl.MaxAnswers, fuel)
		compareDrains(t, p, query, fuel, [][]int{nil, {goals - 1, 0, 1, 1}, {goals, -1, 1}, {1, 2, 3, 4, 5}})
		if fuel >= goals {
			if got != end || !slices.EqualFunc(answers, want, impl.AnswerSame) {
				t.Errorf("Solve(%s) with the fuel %d = %q, %s, not %q, %s", writeAll(query), fuel, formatAnswers(query, answers), endName(got), formatAnswers(query, want), endName(end))
			}
			continue
		}
		// Less fuel finds less, but nothing else.
		if got != impl.EndFuel || len(answers) > len(want) || !slices.EqualFunc(answers, want[:len(answers)], impl.AnswerSame) {
			t.Errorf("Solve(%s) with the fuel %d = %q, %s, and it takes %d goals", writeAll(query), fuel, formatAnswers(query, answers), endName(got), goals)
		}
	}
}

func TestFuelThatIsJustEnough(t *testing.T) {
	p := mustProgram(t, "p(1).", "p(2).", "p(3).", "q(A):-p(A),A>1,!.", "r(A):-q(A).", "r(9).", "n(0).", "n(A):-A>0,B is A-1,n(B).", "z:-fail.", "z:-true,true.", "none(b).", "e(A):-A is 1//0.")
	for text, goals := range map[string]int{
		"true": 1, "fail": 1, "!": 1, "true,true,true,true,true,true": 6, "!,!,!": 3, "fail,true": 1, "!,fail,true": 2,
		"p(A)": 1, "p(4)": 1, "p(A),p(B)": 4, "p(A),!": 2, "p(A),!,p(B)": 3, "p(A),true": 4, "p(A),fail": 4, "p(A),A>1": 4, "p(A),A>1,true": 6, "p(A),A>1,!": 4, "p(A),A>1,!,p(B)": 5,
		"q(A)": 5, "r(A)": 6, "z": 4, "z,z": 8, "n(0)": 2, "n(1)": 5, "n(2)": 8, "n(3),!": 11, "none(a)": 1, "none(a),true": 1, "none(A),true": 2,
		"A=B": 1, "A=1,A=2": 2, "A is B": 1, "e(A)": 2, "p(A),e(A)": 3, "nosuch": 1, "p(A),nosuch": 2, "p(A),B is 1//(A-2)": 3, "n(20)": 62, "n(98)": 296,
	} {
		checkFuel(t, p, mustQuery(t, text), goals)
	}
	checkFuel(t, p, nil, 0)
	checkSolve(t, p, mustQuery(t, "n(99)"), 1, impl.MaxFuel, "yes", "no")
	checkSolve(t, p, mustQuery(t, "n(99)"), 1, 298, "yes", "fuel")
	checkSolve(t, p, mustQuery(t, "true,n(99)"), 1, 300, "yes", "no")
	checkSolve(t, p, mustQuery(t, "true,true,n(99)"), 1, 300, "yes", "fuel")
	// Looking for one answer more takes fuel, too.
	checkSolve(t, p, mustQuery(t, "p(A),A>1"), 1, 2, "", "fuel")
	checkSolve(t, p, mustQuery(t, "p(A),A>1"), 1, 3, "A=2", "fuel")
	checkSolve(t, p, mustQuery(t, "p(A),A>1"), 1, 4, "A=2", "more")
	checkSolve(t, p, mustQuery(t, "p(A),!"), 0, 1, "", "fuel")
	checkSolve(t, p, mustQuery(t, "p(A),!"), 0, 2, "", "more")
	// A goal that is not taken cannot end the search.
	for _, text := range []string{"nosuch", "A is B", "a<1", "A is 1//0", "A is 999+1", "fail", "true", "!"} {
		checkSolve(t, p, mustQuery(t, text), 1, 0, "", "fuel")
	}
}

const choices = `
p(1).
p(2).
p(3).
a(A):-p(A),!.
b(A):-!,p(A).
b(9).
c(A):-p(A),A>1,!.
c(9).
d(A,B):-p(A),!,p(B).
d(9,9).
e(A,B):-p(A),p(B),B>1,!.
f(A,B):-p(A),a(B).
f(8,8).
g(A):-c(A).
g(8).
h(A):-p(A),!,A>1.
h(9).
i(A,B):-p(A),!,p(B),!.
i(9,9).
`

const moreChoices = `
p(1).
p(2).
p(3).
a(A):-p(A),!.
j(A):-p(A),A>1,k.
j(9).
k:-!.
k:-fail.
l(A):-!,fail.
l(1).
m(A):-l(A).
m(5).
n(A):-p(A),!,fail.
n(9).
o(A,B):-a(A),p(B).
o(8,8).
q(A,B):-p(A),r(A,B).
r(1,A):-!,p(A).
r(A,0).
s(A):-!=A,p(1).
`

func TestCuts(t *testing.T) {
	checkTable(t, choices, [][3]string{
		// In a query, the cut leaves no choice.
		{"p(A),!", "A=1", "no"}, {"!,p(A)", "A=1 & A=2 & A=3", "no"}, {"p(A),!,p(B)", "A=1;B=1 & A=1;B=2 & A=1;B=3", "no"}, {"p(A),p(B),!", "A=1;B=1", "no"}, {"p(A),p(B),!,p(C)", "A=1;B=1;C=1 & A=1;B=1;C=2 & A=1;B=1;C=3", "no"},
		{"p(A),A>1,!", "A=2", "no"}, {"p(A),!,A>1", "", "no"}, {"!", "yes", "no"}, {"!,!", "yes", "no"}, {"!,fail", "", "no"}, {"p(A),!,fail", "", "no"}, {"p(A),!,p(B),!", "A=1;B=1", "no"}, {"p(A),!,p(B),!,p(C)", "A=1;B=1;C=1 & A=1;B=1;C=2 & A=1;B=1;C=3", "no"}, {"p(A),!,p(B),B>1,!", "A=1;B=2", "no"},
		// In a body, it leaves the choices that are older than that of its clause.
		{"a(A)", "A=1", "no"}, {"b(A)", "A=1 & A=2 & A=3", "no"}, {"c(A)", "A=2", "no"}, {"d(A,B)", "A=1;B=1 & A=1;B=2 & A=1;B=3", "no"}, {"e(A,B)", "A=1;B=2", "no"}, {"h(A)", "", "no"}, {"i(A,B)", "A=1;B=1", "no"},
		{"f(A,B)", "A=1;B=1 & A=2;B=1 & A=3;B=1 & A=8;B=8", "no"}, {"g(A)", "A=2 & A=8", "no"},
		{"p(A),a(B)", "A=1;B=1 & A=2;B=1 & A=3;B=1", "no"}, {"p(A),c(B)", "A=1;B=2 & A=2;B=2 & A=3;B=2", "no"}, {"p(A),h(B)", "", "no"}, {"a(A),p(B)", "A=1;B=1 & A=1;B=2 & A=1;B=3", "no"}, {"p(A),i(B,C)", "A=1;B=1;C=1 & A=2;B=1;C=1 & A=3;B=1;C=1", "no"},
		{"g(A),a(B)", "A=2;B=1 & A=8;B=1", "no"}, {"f(A,B),!", "A=1;B=1", "no"}, {"g(A),!", "A=2", "no"}, {"p(A),b(B),A=B", "A=1;B=1 & A=2;B=2 & A=3;B=3", "no"},
		// A head that does not fit keeps the cut of its clause from being taken.
		{"c(9)", "yes", "no"}, {"b(9)", "", "no"}, {"c(2)", "yes", "no"}, {"c(1)", "", "no"}, {"h(2)", "yes", "no"}, {"h(1)", "", "no"}, {"h(9)", "yes", "no"},
	})
	checkTable(t, moreChoices, [][3]string{
		{"j(A)", "A=2 & A=3 & A=9", "no"}, {"p(A),k", "A=1 & A=2 & A=3", "no"}, {"k", "yes", "no"}, {"l(A)", "", "no"}, {"m(A)", "A=5", "no"}, {"p(A),m(B)", "A=1;B=5 & A=2;B=5 & A=3;B=5", "no"}, {"n(A)", "", "no"}, {"p(A),n(B)", "", "no"},
		{"o(A,B)", "A=1;B=1 & A=1;B=2 & A=1;B=3 & A=8;B=8", "no"}, {"q(A,B)", "A=1;B=1 & A=1;B=2 & A=1;B=3 & A=2;B=0 & A=3;B=0", "no"}, {"q(A,B),!", "A=1;B=1", "no"}, {"r(A,B)", "A=1;B=1 & A=1;B=2 & A=1;B=3", "no"}, {"r(2,B)", "B=0", "no"},
		// An atom that is the cut cuts nothing where it is not a goal.
		{"p(A),s(B)", "A=1;B=! & A=2;B=! & A=3;B=!", "no"}, {"p(A),B=(!)", "A=1;B=! & A=2;B=! & A=3;B=!", "no"},
	})
}

// TestClausesThatFitAndFail has clauses whose heads fit, but whose goals fail, with and without clauses behind them.
func TestClausesThatFitAndFail(t *testing.T) {
	checkTable(t, `
p(A):-A>5.
p(A):-A>1.
p(A):-fail.
q(A):-fail.
r(A):-A=1,A=2.
r(2).
s(A,B):-A=f(B),B=1,fail.
s(A,B):-A=B.
s(1,2):-nosuch.
t(f(A)):-q(A).
t(g(A)).
`, [][3]string{
		{"p(7)", "yes & yes", "no"}, {"p(3)", "yes", "no"}, {"p(0)", "", "no"}, {"q(A)", "", "no"}, {"r(A)", "A=2", "no"}, {"r(1)", "", "no"}, {"s(A,B)", "A=A;B=A", "unknown"}, {"s(A,1)", "A=1", "no"}, {"s(A,B),A=3", "A=3;B=3", "unknown"},
		{"t(f(1))", "", "no"}, {"t(A)", "A=g(A)", "no"}, {"t(h(1))", "", "no"}, {"t(f(A)),nosuch", "", "no"}, {"r(3)", "", "no"}, {"r(f(2))", "", "no"},
	})
}

// TestVariablesThatAreLeft has answers in which variables are left: they are numbered in the order of the values.
func TestVariablesThatAreLeft(t *testing.T) {
	checkTable(t, `
p(A).
q(A,A).
r(A,f(B),B).
s(A,B):-A=g(C,D,C),B=[D|E].
t(Z,Y,X):-q(X,Y).
u([A,B,C]).
v(A,B):-q(A,B),q(B,A).
w(A,B,C,D):-r(D,C,B),p(A).
x(A):-p(B),p(C),A=f(C,B).
`, [][3]string{
		{"p(A)", "A=A", "no"}, {"p(Z)", "Z=A", "no"}, {"p(C),p(A)", "C=A;A=B", "no"}, {"A=A", "A=A", "no"}, {"A=B", "A=A;B=A", "no"}, {"p(B),A=1", "B=A;A=1", "no"}, {"q(A,B)", "A=A;B=A", "no"}, {"q(B,A),q(A,C)", "B=A;A=A;C=A", "no"},
		{"r(A,B,C)", "A=A;B=f(B);C=B", "no"}, {"r(C,B,A)", "C=A;B=f(B);A=B", "no"}, {"r(A,A,B)", "A=f(A);B=A", "no"}, {"r(A,f(1),B)", "A=A;B=1", "no"}, {"s(A,B)", "A=g(A,B,A);B=[B|C]", "no"}, {"s(B,A)", "B=g(A,B,A);A=[B|C]", "no"}, {"s(A,[1|B])", "A=g(A,1,A);B=B", "no"},
		{"t(A,B,C)", "A=A;B=B;C=B", "no"}, {"t(A,B,C),C=1", "A=A;B=1;C=1", "no"}, {"u(A)", "A=[A,B,C]", "no"}, {"u([A|B])", "A=A;B=[B,C]", "no"}, {"u([A,B,A])", "A=A;B=B", "no"}, {"v(A,B)", "A=A;B=A", "no"}, {"w(A,B,C,D)", "A=A;B=B;C=f(B);D=C", "no"}, {"w(D,C,B,A)", "D=A;C=B;B=f(B);A=C", "no"},
		{"x(A)", "A=f(A,B)", "no"}, {"x(f(B,A))", "B=A;A=B", "no"}, {"x(f(A,A))", "A=A", "no"}, {"u(A),u(B)", "A=[A,B,C];B=[D,E,F]", "no"}, {"u(A),u(A)", "A=[A,B,C]", "no"}, {"u(A),p(B),x(C)", "A=[A,B,C];B=D;C=f(E,F)", "no"},
	})
}

// TestClausesThatAreUsedAgain has searches in which the variables of one use must not be those of another one.
func TestClausesThatAreUsedAgain(t *testing.T) {
	checkTable(t, `
p(A,f(A)).
q(A,B):-p(A,C),p(C,B).
r(A,B):-r(B).
r(A):-A=f(B).
s([]).
s([A|B]):-A=g(C),s(B).
t(A,[A,B]).
`, [][3]string{
		{"p(1,A),p(2,B)", "A=f(1);B=f(2)", "no"}, {"p(A,B),p(C,D)", "A=A;B=f(A);C=B;D=f(B)", "no"}, {"q(A,B)", "A=A;B=f(f(A))", "no"}, {"q(1,A),q(A,B)", "A=f(f(1));B=f(f(f(f(1))))", "no"}, {"r(A,B),r(A,C)", "A=A;B=f(B);C=f(C)", "no"},
		{"s([A,B,C])", "A=g(A);B=g(B);C=g(C)", "no"}, {"s([A,A])", "A=g(A)", "no"}, {"t(A,B),t(B,C)", "A=A;B=[A,B];C=[[A,B],C]", "no"}, {"t(A,B),t(A,C)", "A=A;B=[A,B];C=[A,C]", "no"},
		// Variables of the query with the numbers of those of a clause.
		{"t(B,A)", "B=A;A=[A,B]", "no"}, {"p(f(A),B)", "A=A;B=f(f(A))", "no"}, {"p(B,f(A))", "B=A;A=A", "no"}, {"p(A,A)", "", "no"}, {"t(A,[B,A])", "A=A;B=A", "no"},
	})
}

// TestVariablesOfQueriesAndClauses has all variables in a query, and all in a clause: none of them are the same.
func TestVariablesOfQueriesAndClauses(t *testing.T) {
	for n := range impl.MaxVar + 1 {
		for m := range impl.MaxVar + 1 {
			other := variable((m + 1) % (impl.MaxVar + 1))
			p := []impl.Clause{{Head: structure("p", number(1), variable(m)), Body: []impl.Term{structure("q", number(2))}}, {Head: structure("q", other), Body: []impl.Term{structure("r", other)}}, {Head: structure("r", number(2))}}
			query := []impl.Term{structure("p", variable(n), variable((n+1)%(impl.MaxVar+1)))}
			answers, end := impl.Solve(p, query, 5, 5)
			compareRun(t, p, query, 5, 5)
			compareDrains(t, p, query, 5, [][]int{nil, {1, 1, 1, 1, 1}, {2, 1}, {3}})
			if len(answers) != 1 || formatAll(answers[0].Values) != "1 A" || end != impl.EndNo {
				t.Errorf("Solve(%s) = %q, %s, for %s", writeAll(query), formatAnswers(query, answers), endName(end), impl.FormatProgram(p))
			}
		}
	}
}

func TestQueriesWithoutGoalsOrVariables(t *testing.T) {
	p := mustProgram(t, "p(1).", "p(2).", "p(1).", "q.")
	checkSolve(t, p, nil, 1, 0, "yes", "no")
	checkSolve(t, p, nil, 0, 0, "", "more")
	checkSolve(t, p, nil, impl.MaxAnswers, impl.MaxFuel, "yes", "no")
	checkSolve(t, nil, []impl.Term{}, 1, 1, "yes", "no")
	checkSolve(t, nil, mustQuery(t, "true"), 1, 1, "yes", "no")
	checkSolve(t, nil, mustQuery(t, "q"), 1, 1, "", "unknown")
	checkSolve(t, p, mustQuery(t, "p(1)"), 5, 5, "yes & yes", "no")
	checkSolve(t, p, mustQuery(t, "q,p(2)"), 5, 5, "yes", "no")
	checkSolve(t, p, mustQuery(t, "p(3)"), 5, 5, "", "no")
	checkSolve(t, p, mustQuery(t, "q,q,q,q,q,q"), 5, 6, "yes", "no")
	checkSolve(t, p, mustQuery(t, "p(A),p(A),p(A),p(A),p(A),p(A)"), 1, impl.MaxFuel, "A=1", "more")
	for _, text := range []string{"true", "q", "p(1)"} {
		answers, _ := impl.Solve(p, mustQuery(t, text), 1, 1)
		if len(answers) != 1 || len(answers[0].Values) != 0 {
			t.Errorf("Solve(%s) = %v", text, answers)
		}
	}
}

// equal returns a goal that makes two terms equal.
func equal(a impl.Term, b impl.Term) impl.Term {
	return structure("=", a, b)
}

// nested returns x as the argument of this many structures, one in the other.
func nested(x impl.Term, depth int) impl.Term {
	for range depth {
		x = structure("f", x)
	}
	return x
}

// checkBody checks how a search ends that takes all goals of a body, or fewer if the last one is too large.
func checkBody(t *testing.T, about string, large bool, goals ...impl.Term) {
	t.Helper()
	a, b := variable(0), variable(1)
	p := []impl.Clause{{Head: structure("go"), Body: goals}, {Head: structure("go")}, {Head: structure("q", a)}, {Head: structure("q", a, b)}}
	if !impl.ProgramValid(p) {
		t.Fatalf("%s: the program is not valid", about)
	}
	query := []impl.Term{structure("go")}
	if large {
		checkSolve(t, p, query, 5, impl.MaxFuel, "", "large")
		checkSolve(t, p, query, 5, len(goals), "", "fuel")
	} else {
		checkSolve(t, p, query, 5, impl.MaxFuel, "yes & yes", "no")
	}
}

// TestGoalsThatAreTooLarge has goals whose size is known only when their variables are replaced.
func TestGoalsThatAreTooLarge(t *testing.T) {
	a, b := variable(0), variable(1)
	for extra := range 4 {
		// The last goals have 119 to 122 nodes, or a depth of 29 to 32.
		large := extra > 1
		checkBody(t, "a plain goal", large, equal(a, bush(114+extra)), structure("q", nested(a, 3), number(1)))
		checkBody(t, "two variables", large, equal(a, bush(57)), equal(b, bush(60+extra)), structure("q", b, nested(a, 1)))
		checkBody(t, "variables of variables", large, equal(a, b), equal(b, bush(115+extra)), structure("q", nested(a, 3)))
		checkBody(t, "a goal that is built in", large, equal(a, bush(58)), equal(b, bush(59+extra)), structure("\\=", a, nested(b, 1)))
		checkBody(t, "a test", large, equal(a, bush(115+extra)), structure("nonvar", nested(a, 3)))
		checkBody(t, "a plain goal of some depth", large, equal(a, chain(25)), structure("q", nested(a, 3+extra)))
		checkBody(t, "a second argument of some depth", large, equal(a, chain(25)), structure("q", number(1), nested(a, 3+extra)))
		checkBody(t, "a test of some depth", large, equal(a, chain(25)), structure("nonvar", nested(a, 3+extra)))
		checkBody(t, "variables of some depth", large, equal(a, nested(b, 20)), equal(b, chain(5)), structure("q", nested(a, 3+extra)))
	}
	checkBody(t, "one variable twice", false, equal(a, bush(59)), structure("q", a, a))
	checkBody(t, "one variable twice", true, equal(a, bush(60)), structure("q", a, a))
	checkBody(t, "a variable that is not taken", false, equal(a, bush(60)), structure("q", a), structure("q", number(1)))
}

// TestLargeGoalsInTheirOrder has goals that are too large, and other reasons to end or to go back.
func TestLargeGoalsInTheirOrder(t *testing.T) {
	checkTable(t, `
two(A,f(A,A,A,A)).
big(E):-two(a,B),two(B,C),two(C,D),two(D,E).
q(1).
q(A):-big(B),q(B).
q(3).
r(1).
r(A):-big(B),nosuch(B).
s(1).
s(A):-big(B),A is B.
t(1).
t(A):-big(B),fail.
t(2):-big(A),!.
t(3).
u(A):-big(B),true,u(a,A).
u(a,A):-big(B),A=4.
`, [][3]string{
		{"q(A)", "A=1", "large"}, {"q(A),!", "A=1", "no"}, {"q(2)", "", "large"}, {"q(A),A>3", "", "large"}, {"r(A)", "A=1", "large"}, {"s(A)", "A=1", "large"}, {"t(A)", "A=1 & A=2", "no"}, {"u(A)", "A=4", "no"}, {"big(A)", "", "large"}, {"big(A),fail", "", "no"}, {"two(A,B)", "A=A;B=f(A,A,A,A)", "no"}, {"t(A),big(B)", "", "large"}, {"t(A),u(B)", "A=1;B=4 & A=2;B=4", "no"},
	})
}

// TestLargeBindings has goals whose bindings are too large for CallBuiltin, but not for a search.
func TestLargeBindings(t *testing.T) {
	a, b, c, d, e := variable(0), variable(1), variable(2), variable(3), variable(4)
	four := func(x impl.Term) impl.Term { return structure("f", x, x, x, x) }
	grow := equal(structure("t", a, b, c, d), structure("t", four(b), four(c), four(d), four(e)))
	if binds, code := impl.CallBuiltin(grow); code != impl.CallRange || len(binds) > 0 {
		t.Fatalf("CallBuiltin(%s) = %s, %s", impl.WriteTerm(grow), formatBinds(binds), codeName(code))
	}
	checkBody(t, "large bindings", false, grow)
	checkBody(t, "large bindings, and others", false, grow, equal(e, number(1)), structure("q", c), structure("=:=", e, number(1)), structure("\\=", e, number(2)))
	checkBody(t, "large bindings that are taken", true, grow, structure("q", a))
	checkBody(t, "large bindings that are taken in a test", true, grow, structure("nonvar", a))
	checkBody(t, "large bindings by arg", false, structure("arg", number(1), structure("f", structure("t", a, b, c, d)), structure("t", four(b), four(c), four(d), four(e))))
	checkBody(t, "deep bindings", false, equal(structure("t", a, b), structure("t", nested(b, 20), nested(c, 20))), structure("q", b))
	checkBody(t, "deep bindings that are taken", true, equal(structure("t", a, b), structure("t", nested(b, 20), nested(c, 20))), structure("q", a))
	// The heads of clauses make bindings, too.
	same := structure("same", structure("t", a, b, c, d), structure("t", four(b), four(c), four(d), four(e)))
	p := []impl.Clause{{Head: structure("same", a, a)}, {Head: structure("go"), Body: []impl.Term{same, structure("true")}}}
	checkSolve(t, p, []impl.Term{structure("go")}, 5, 5, "yes", "no")
	checkSolve(t, p, []impl.Term{same}, 5, 5, "", "large")
	checkSolve(t, p, []impl.Term{same, structure("fail")}, 5, 5, "", "no")
	checkSolve(t, p, []impl.Term{same}, 0, 5, "", "more")
}

// TestAnswersThatAreTooLarge has values with 119 to 122 nodes, or a depth of 29 to 32.
func TestAnswersThatAreTooLarge(t *testing.T) {
	a, b := variable(0), variable(1)
	for extra := range 4 {
		bodies := map[string]impl.Clause{
			"nodes": {Head: structure("p", structure("f", a, b)), Body: []impl.Term{equal(a, bush(58)), equal(b, bush(60+extra))}},
			"depth": {Head: structure("p", nested(a, 4+extra)), Body: []impl.Term{equal(a, chain(25))}},
		}
		for name, c := range bodies {
			p := []impl.Clause{{Head: structure("p", number(1))}, c, {Head: structure("p", number(2))}}
			answers, end := impl.Solve(p, mustQuery(t, "p(B)"), 5, 50)
			compareLimits(t, p, mustQuery(t, "p(B)"))
			compareSessions(t, p, mustQuery(t, "p(B)"))
			if extra > 1 {
				if len(answers) != 1 || end != impl.EndLarge {
					t.Errorf("%s of %d more: Solve = %d answers, %s", name, extra, len(answers), endName(end))
				}
			} else if len(answers) != 3 || end != impl.EndNo || !impl.TermValid(answers[1].Values[0]) {
				t.Errorf("%s of %d more: Solve = %d answers, %s", name, extra, len(answers), endName(end))
			}
			checkSolve(t, p, mustQuery(t, "p(1),true"), 5, 50, "yes", "no")
			// An answer behind as many as most says is one, whatever its size.
			checkSolve(t, p, mustQuery(t, "p(B)"), 1, 50, "B=1", "more")
		}
	}
}

// several returns a term with this many different variables.
func several(variables int) impl.Term {
	var items []impl.Term
	for n := range variables {
		items = append(items, variable(n))
	}
	return tuple(items...)
}

// TestAnswersWithManyVariables has answers with 26 and 27 variables.
func TestAnswersWithManyVariables(t *testing.T) {
	for variables := range 14 {
		other := impl.MaxVar + 1 - variables
		p := []impl.Clause{{Head: structure("p", several(variables))}, {Head: structure("q", several(other))}, {Head: structure("r", several(other+1))}}
		if variables == 0 {
			p = p[:2]
		}
		answers, end := impl.Solve(p, mustQuery(t, "p(A),q(B)"), 5, 5)
		compareLimits(t, p, mustQuery(t, "p(A),q(B)"))
		compareSessions(t, p, mustQuery(t, "p(A),q(B)"))
		if len(answers) != 1 || end != impl.EndNo || len(impl.TermVars(structure("t", answers[0].Values...))) != impl.MaxVar+1 {
			t.Errorf("%d and %d variables: Solve = %v, %s", variables, other, answers, endName(end))
			continue
		}
		if vars := impl.TermVars(answers[0].Values[1]); vars[0] != variables || vars[len(vars)-1] != impl.MaxVar {
			t.Errorf("%d and %d variables: Solve = %v", variables, other, answers)
		}
		if variables == 0 {
			continue
		}
		checkSolve(t, p, mustQuery(t, "p(A),r(B)"), 5, 5, "", "large")
		checkSolve(t, p, mustQuery(t, "p(A),r(B)"), 0, 5, "", "more")
		checkSolve(t, p, mustQuery(t, "p(A),q(B),q(C)"), 5, 5, "", "large")
		// Variables that are not in the answer do not count.
		checkSolve(t, append(p, mustProgram(t, "go:-p(A),q(B),r(C).")...), mustQuery(t, "go"), 5, 5, "yes", "no")
	}
	// Variables that occur in several values are counted once.
	p := []impl.Clause{{Head: structure("p", several(impl.MaxVar+1), several(impl.MaxVar+1))}}
	answers, end := impl.Solve(p, mustQuery(t, "p(A,B)"), 5, 5)
	compareRun(t, p, mustQuery(t, "p(A,B)"), 5, 5)
	compareDrains(t, p, mustQuery(t, "p(A,B)"), 5, slicings())
	if len(answers) != 1 || end != impl.EndNo || !impl.TermSame(answers[0].Values[0], answers[0].Values[1]) {
		t.Errorf("Solve(p(A,B)) = %v, %s", answers, endName(end))
	}
}

// TestSearchesInTime has searches that take long if terms are visited that nothing can visit, or
// if much more is done for a goal than looking at the clauses.
func TestSearchesInTime(t *testing.T) {
	double := mustProgram(t, "g(A):-g(f(A,A,A,A)).", "h(A,B):-h(f(A,A),f(B,B)).", "k(A,B):-A=f(C,C,C,C),k(C,B).", "m:-k(A,B),fail.", "w(A):-B=f(A,A,A,A),x(B).", "x(A).")
	inTime(t, func() {
		checkSolve(t, double, mustQuery(t, "g(a)"), 5, impl.MaxFuel, "", "large")
		checkSolve(t, double, mustQuery(t, "h(a,B)"), 5, impl.MaxFuel, "", "large")
		checkSolve(t, double, mustQuery(t, "k(A,B)"), 5, impl.MaxFuel, "", "fuel")
		checkSolve(t, double, mustQuery(t, "m"), 5, impl.MaxFuel, "", "fuel")
	})
	// All clauses fit but for the last node of their heads, again and again.
	var p []impl.Clause
	for n := range impl.MaxClauses - 1 {
		p = append(p, impl.Clause{Head: structure("p", bush(100), number(n))})
	}
	p = append(p, impl.Clause{Head: structure("p", bush(100), variable(0)), Body: slices.Repeat([]impl.Term{structure("p", bush(100), number(99))}, impl.MaxGoals)})
	inTime(t, func() {
		checkSolve(t, p, []impl.Term{structure("p", bush(100), number(99))}, 5, impl.MaxFuel, "", "fuel")
	})
	// Each goal leaves a choice, and what a variable stands for is found through all that were before it.
	long := mustProgram(t, "p(A):-A=B,p(B).", "p(A).", "q(A):-p(A),nosuch.")
	inTime(t, func() {
		checkSolve(t, long, mustQuery(t, "q(A)"), 5, impl.MaxFuel, "", "fuel")
	})
}

// TestSolveStepByStep compares the answers and the ends of many searches with those of slowSolve.
func TestSolveStepByStep(t *testing.T) {
	s := source{state: 31}
	met := make([]int, len(endNames))
	found, several := 0, 0
	for range 20000 {
		p, query := s.knownProgram(), s.knownQuery()
		most, fuel := s.below(impl.MaxAnswers+1), s.below(60)
		if !impl.ProgramValid(p) || !impl.QueryValid(query) {
			t.Fatalf("%s is not valid for %s", writeAll(query), impl.FormatProgram(p))
		}
		want, wantEnd := slowSolve(p, query, most, fuel)
		got, end := impl.Solve(p, query, most, fuel)
		if end != wantEnd || !slices.EqualFunc(got, want, impl.AnswerSame) {
			t.Fatalf("Solve(%s, %d, %d) = %q, %s, not %q, %s, for\n%s", writeAll(query), most, fuel, formatAnswers(query, got), endName(end), formatAnswers(query, want), endName(wantEnd), impl.FormatProgram(p))
		}
		met[end]++
		found += len(got)
		if len(got) > 1 {
			several++
		}
	}
	for end, count := range met[:impl.EndInvalid] {
		if count < 20 {
			t.Errorf("only %d searches have the end %s", count, endName(end))
		}
	}
	if found < 10000 || several < 2000 {
		t.Errorf("only %d answers were found, and %d times several", found, several)
	}
}
