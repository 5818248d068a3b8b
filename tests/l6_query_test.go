package tests

import (
	"slices"
	"strings"
	"testing"

	"loop.example/prologserver/impl"
)

func TestQueryValid(t *testing.T) {
	goals := []impl.Term{structure("p"), structure("!"), structure("true"), structure("=", variable(0), variable(25)), structure("p", bush(impl.MaxNodes-1)), structure("p", chain(impl.MaxDepth-1))}
	for count := range impl.MaxGoals + 3 {
		for _, goal := range goals {
			if got, want := impl.QueryValid(slices.Repeat([]impl.Term{goal}, count)), count <= impl.MaxGoals; got != want {
				t.Errorf("QueryValid of %d goals %s = %v", count, impl.WriteTerm(goal), got)
			}
		}
	}
	if !impl.QueryValid(goals) || !impl.QueryValid(nil) || !impl.QueryValid([]impl.Term{}) {
		t.Error("QueryValid = false")
	}
	for name, bad := range invalidQueries() {
		if impl.QueryValid(bad) {
			t.Errorf("%s: QueryValid = true", name)
		}
		if vars := impl.QueryVars(bad); len(vars) > 0 {
			t.Errorf("%s: QueryVars = %v", name, vars)
		}
	}
}

func TestQueryVars(t *testing.T) {
	cases := map[string][]int{
		"p": nil, "!,true": nil, "p(1,a,f(b))": nil, "p(A)": {0}, "p(Z)": {25}, "p(C),q(A,C)": {2, 0}, "q(B,A),p(C)": {1, 0, 2}, "p,p(B),!,A=B,A is C+A": {1, 0, 2},
		"p(f(C,g(B)),[D,A|C])": {2, 1, 3, 0}, "A=B": {0, 1}, "B=A": {1, 0}, "p(A),p(A),p(A)": {0}, "p(Z),p(Y),p(X),p(A),p(Z),p(B)": {25, 24, 23, 0, 1},
	}
	for text, want := range cases {
		if got := impl.QueryVars(mustQuery(t, text)); !slices.Equal(got, want) {
			t.Errorf("QueryVars(%s) = %v, not %v", text, got, want)
		}
	}
	if got := impl.QueryVars(nil); len(got) > 0 {
		t.Errorf("QueryVars of no goals = %v", got)
	}
	all := impl.QueryVars([]impl.Term{structure("p", several(13)), structure("p", several(impl.MaxVar+1))})
	for i, v := range all {
		if i != v || len(all) != impl.MaxVar+1 {
			t.Fatalf("QueryVars = %v", all)
		}
	}
}

// checkQuery checks the goals that ParseQuery returns, in the texts of chapter 1.
func checkQuery(t *testing.T, text string, goals ...string) {
	t.Helper()
	query, ok := impl.ParseQuery(text)
	if got, want := formatAll(query), strings.Join(goals, " "); !ok || got != want || len(query) != len(goals) {
		t.Errorf("ParseQuery(%q) = %q, %v, not %q", text, got, ok, want)
	}
}

func TestParseQuery(t *testing.T) {
	checkQuery(t, "p", "p")
	checkQuery(t, "p,q", "p", "q")
	checkQuery(t, "p(A),A>1,!", "p(A)", ">(A,1)", "!")
	checkQuery(t, "A is B+C*2,A\\=1", "is(A,+(B,*(C,2)))", "\\=(A,1)")
	checkQuery(t, "A=:=B,C=<D,D>=C,A==B,A=B,A<B", "=:=(A,B)", "=<(C,D)", ">=(D,C)", "==(A,B)", "=(A,B)", "<(A,B)")
	checkQuery(t, "p(a,b),q([c,d|E],f(1,2))", "p(a,b)", "q([c,d|E],f(1,2))")
	checkQuery(t, "A=[p,q],B=f(p,q)", "=(A,[p,q])", "=(B,f(p,q))")
	checkQuery(t, "true,fail,var(A),nonvar(A),atom(a),int(1)", "true", "fail", "var(A)", "nonvar(A)", "atom(a)", "int(1)")
	checkQuery(t, "arg(1,f(a,b),A),!", "arg(1,f(a,b),A)", "!")
	checkQuery(t, "A=(-1),B=C-1,C=-1", "=(A,-1)", "=(B,-(C,1))", "=(C,-1)")
	// Written terms need not be as WriteTerm writes them.
	checkQuery(t, "(p),((q)),(A=B)", "p", "q", "=(A,B)")
	checkQuery(t, "=(A,B),is(A,+(1,2))", "=(A,B)", "is(A,+(1,2))")
	checkQuery(t, "p((A)),p((A=B)),p([a|[b]]),p(.(a,[]))", "p(A)", "p(=(A,B))", "p([a,b])", "p([a])")
	checkQuery(t, "A=(B=C),!=A", "=(A,=(B,C))", "=(!,A)")
	checkQuery(t, "p,q,r,s,t,u", "p", "q", "r", "s", "t", "u")
	checkQuery(t, "A=!,B=a", "=(A,!)", "=(B,a)")
}

func TestParseQueryRefuses(t *testing.T) {
	texts := []string{
		"", ",", "p,", ",p", "p,,q", "p, q", " p", "p ", "p q", "p.", "p:-q", ":-p", "p\n", "p;q", "(p,q)", "((p)", "(p))", "p(", "p()", "p(a,)", "p)", "p,q(a", "p|q", "\x00", "p\x00", "\xff",
		"A", "1", "-1", "[]", "[p]", "p,A", "p,1", "[p,q],p", "1+2", "p,a-b", "a*b,p", "7 mod 2", "is", "mod", "+", "=", "p,=", "=(A)", "=(A,B,C)", "!(A)", "p,!(p)", ".(a,b)", "A=B=C", "A=B,C<D<E", "p(A=B=C)", "abcdefg", "p(abcdefg)", "p(1000)", "p(01)", "p(-0)", "p(A1)", "p(1,2,3,4,5)",
		"p,q,r,s,t,u,v", "!,!,!,!,!,!,!", "true,true,true,true,true,true,true,true,true", "is(1),p", "A is B is C",
	}
	for _, text := range texts {
		if query, ok := impl.ParseQuery(text); ok || len(query) > 0 {
			t.Errorf("ParseQuery(%q) = %v, %v", text, query, ok)
		}
	}
	for name, x := range map[string]impl.Term{"nodes": bush(impl.MaxNodes), "depth": chain(impl.MaxDepth)} {
		text := impl.WriteTerm(x)
		checkQuery(t, text, impl.FormatTerm(x))
		checkQuery(t, "p,"+text, "p", impl.FormatTerm(x))
		if query, ok := impl.ParseQuery("p,q(" + text + ")"); ok || len(query) > 0 {
			t.Errorf("ParseQuery with too many %s = %v, %v", name, query, ok)
		}
	}
}

func TestTextsOfQueriesAtTheLimit(t *testing.T) {
	for length := 990; length <= 1010; length++ {
		for goals := 2; goals <= impl.MaxGoals; goals++ {
			var query []impl.Term
			for _, share := range shares(length-goals+1, goals) {
				query = append(query, sized(share))
			}
			text := writeAll(query)
			if len(text) != length || !impl.QueryValid(query) {
				t.Fatalf("a query of %d bytes has %d", length, len(text))
			}
			got, ok := impl.ParseQuery(text)
			if want := length <= 1000; ok != want || ok && formatAll(got) != formatAll(query) || !ok && len(got) > 0 {
				t.Errorf("ParseQuery of %d bytes = %v, %v", length, got, ok)
			}
		}
	}
	for _, text := range []string{strings.Repeat("p,", 500), strings.Repeat("(", 1000), strings.Repeat("p,", 1<<20) + "p", strings.Repeat("p(", 500), strings.Repeat("a", 1000), strings.Repeat("[", 1<<20)} {
		if query, ok := impl.ParseQuery(text); ok || len(query) > 0 {
			t.Errorf("ParseQuery(%.20q) = %v, %v", text, query, ok)
		}
	}
}

// readGoals derives a query without its reader: every way to cut a text at commas is tried.
func readGoals(text string, most int) ([]impl.Term, bool) {
	if most == 0 {
		return nil, false
	}
	if x := readGoal(text); impl.GoalValid(x) {
		return []impl.Term{x}, true
	}
	for i := range len(text) {
		x := readGoal(text[:i])
		if text[i] != ',' || !impl.GoalValid(x) {
			continue
		}
		if rest, ok := readGoals(text[i+1:], most-1); ok {
			return append([]impl.Term{x}, rest...), true
		}
	}
	return nil, false
}

// TestParseQueryOfManyTexts compares what is read with what is derived.
func TestParseQueryOfManyTexts(t *testing.T) {
	read := 0
	check := func(text string) {
		want, wanted := readGoals(text, impl.MaxGoals)
		got, ok := impl.ParseQuery(text)
		if ok != wanted || formatAll(got) != formatAll(want) || len(got) != len(want) {
			t.Fatalf("ParseQuery(%q) = %s, %v, not %s, %v", text, formatAll(got), ok, formatAll(want), wanted)
		}
		if ok {
			read++
		}
	}
	combine([]string{"p", "q(", ")", ",", "A", "!", "=", "1", "(", "[", "]"}, 5, check)
	s := source{state: 32}
	for range 20000 {
		var query []impl.Term
		for range 1 + s.below(impl.MaxGoals+1) {
			query = append(query, s.goal())
		}
		text := []byte(writeAll(query))
		if len(text) == 0 || len(text) > 60 {
			continue
		}
		check(string(text))
		text[s.below(len(text))] = "Ap1-=<*()[],.:!| \n"[s.below(18)]
		check(string(text))
	}
	if read < 5000 {
		t.Errorf("only %d queries were read", read)
	}
}

// answerOf returns an answer with values in the texts of chapter 1.
func answerOf(t *testing.T, values ...string) impl.Answer {
	t.Helper()
	return impl.Answer{Values: mustParseAll(t, values...)}
}

// TestFormatAnswer has answers to queries with their texts, and with their goals.
func TestFormatAnswer(t *testing.T) {
	cases := []struct {
		query  string
		values []string
		text   string
		goals  string
	}{
		{"p", nil, "yes", "p"}, {"p(1),!", nil, "yes", "p(1) !"},
		{"p(A)", []string{"1"}, "A=1", "p(1)"}, {"p(Z)", []string{"-1"}, "Z=-1", "p(-1)"}, {"p(A)", []string{"Z"}, "A=Z", "p(Z)"}, {"p(B)", []string{"A"}, "B=A", "p(A)"},
		{"p(B),q(A,B)", []string{"1", "2"}, "B=1;A=2", "p(1) q(2,1)"}, {"q(A,B)", []string{"B", "A"}, "A=B;B=A", "q(B,A)"}, {"q(A,B)", []string{"f(B)", "f(A)"}, "A=f(B);B=f(A)", "q(f(B),f(A))"},
		{"p(A)", []string{"[1,2|B]"}, "A=[1,2|B]", "p([1,2|B])"}, {"p(A)", []string{"+(1,*(2,-3))"}, "A=1+2*(-3)", "p(+(1,*(2,-3)))"}, {"p(A)", []string{"=(B,C)"}, "A=B=C", "p(=(B,C))"}, {"p(A)", []string{"is(A,1)"}, "A=A is 1", "p(is(A,1))"}, {"p(A)", []string{"="}, "A==", "p(=)"}, {"p(A)", []string{"!"}, "A=!", "p(!)"}, {"p(A)", []string{"-(1)"}, "A=-(1)", "p(-(1))"}, {"p(A)", []string{"mod"}, "A=mod", "p(mod)"},
		{"A=B,!,C is A", []string{"1", "2", "3"}, "A=1;B=2;C=3", "=(1,2) ! is(3,1)"}, {"p([A|B]),q(B,A)", []string{"x", "[y]"}, "A=x;B=[y]", "p([x,y]) q([y],x)"}, {"p(A),p(A),p(A)", []string{"f(A)"}, "A=f(A)", "p(f(A)) p(f(A)) p(f(A))"}, {"true,A<B", []string{"B", "B"}, "A=B;B=B", "true <(B,B)"},
	}
	for _, c := range cases {
		query, a := mustQuery(t, c.query), answerOf(t, c.values...)
		if got := impl.FormatAnswer(query, a); got != c.text {
			t.Errorf("FormatAnswer(%s, %v) = %q, not %q", c.query, c.values, got, c.text)
		}
		goals, ok := impl.AnswerGoals(query, a)
		if got := formatAll(goals); !ok || got != c.goals || !impl.QueryValid(goals) {
			t.Errorf("AnswerGoals(%s, %v) = %q, %v, not %q", c.query, c.values, got, ok, c.goals)
		}
		// One value more, and one less.
		checkNoAnswer(t, c.query, query, impl.Answer{Values: append(slices.Clone(a.Values), number(1))})
		if len(a.Values) > 0 {
			checkNoAnswer(t, c.query, query, impl.Answer{Values: a.Values[1:]})
			checkNoAnswer(t, c.query, query, impl.Answer{})
		}
	}
	if got := impl.FormatAnswer(nil, impl.Answer{}); got != "yes" {
		t.Errorf("FormatAnswer of no goals = %q", got)
	}
	if goals, ok := impl.AnswerGoals(nil, impl.Answer{}); !ok || len(goals) > 0 {
		t.Errorf("AnswerGoals of no goals = %v, %v", goals, ok)
	}
}

// checkNoAnswer checks that an answer does not belong to a query.
func checkNoAnswer(t *testing.T, about string, query []impl.Term, a impl.Answer) {
	t.Helper()
	if got := impl.FormatAnswer(query, a); got != "" {
		t.Errorf("%s: FormatAnswer of %d values = %q", about, len(a.Values), got)
	}
	if goals, ok := impl.AnswerGoals(query, a); ok || len(goals) > 0 {
		t.Errorf("%s: AnswerGoals of %d values = %v, %v", about, len(a.Values), goals, ok)
	}
}

func TestAnswersThatAreNotValid(t *testing.T) {
	query := mustQuery(t, "p(A),q(B,A),r(C)")
	for name, bad := range invalidTerms() {
		for i := range 3 {
			values := []impl.Term{number(1), structure("a"), variable(2)}
			values[i] = bad
			checkNoAnswer(t, name, query, impl.Answer{Values: values})
		}
	}
	for name, bad := range invalidQueries() {
		for values := range 4 {
			checkNoAnswer(t, name, bad, impl.Answer{Values: slices.Repeat([]impl.Term{number(1)}, values)})
		}
	}
}

// TestAnswerGoalsAtTheLimits has valid values with which a goal has 119 to 122 nodes, or a depth of 29 to 32.
func TestAnswerGoalsAtTheLimits(t *testing.T) {
	a, b := variable(0), variable(1)
	for extra := range 4 {
		cases := map[string]struct {
			goal   impl.Term
			values []impl.Term
		}{
			"nodes of one value":    {structure("p", nested(a, 8)), []impl.Term{bush(110 + extra)}},
			"nodes of two values":   {structure("p", b, a), []impl.Term{bush(60), bush(58 + extra)}},
			"depth of the first":    {structure("p", nested(a, 18)), []impl.Term{chain(10 + extra)}},
			"depth of another part": {structure("p", number(1), structure("f", b, nested(a, 17))), []impl.Term{number(1), chain(10 + extra)}},
		}
		for name, c := range cases {
			query, answer := []impl.Term{structure("t"), c.goal}, impl.Answer{Values: c.values}
			goals, ok := impl.AnswerGoals(query, answer)
			if want := extra < 2; ok != want || ok && (len(goals) != 2 || !impl.TermValid(goals[1])) || !ok && len(goals) > 0 {
				t.Errorf("%s and %d more: AnswerGoals = %v, %v", name, extra, goals, ok)
			}
			// The values are written, whatever the size of the goals.
			if got := impl.FormatAnswer(query, answer); got == "" {
				t.Errorf("%s and %d more: FormatAnswer = %q", name, extra, got)
			}
		}
	}
	// The most that there is to write.
	query := []impl.Term{structure("p", several(impl.MaxVar+1))}
	answer := impl.Answer{Values: slices.Repeat([]impl.Term{remainders(impl.MaxNodes / 2)}, impl.MaxVar+1)}
	var want []string
	for n, x := range answer.Values {
		want = append(want, string(rune('A'+n))+"="+impl.WriteTerm(x))
	}
	if got := impl.FormatAnswer(query, answer); got != strings.Join(want, ";") {
		t.Errorf("FormatAnswer = %q", got)
	}
}

func TestAnswerSame(t *testing.T) {
	answers := []impl.Answer{{}, answerOf(t, "1"), answerOf(t, "2"), answerOf(t, "A"), answerOf(t, "B"), answerOf(t, "1", "1"), answerOf(t, "1", "2"), answerOf(t, "2", "1"), answerOf(t, "f(1)"), answerOf(t, "f(1,2)"), answerOf(t, "f(f(f(1)))"), answerOf(t, "f(f(f(2)))"), {Values: []impl.Term{{}}}, {Values: []impl.Term{{}, {}}}}
	for _, bad := range invalidTerms() {
		answers = append(answers, impl.Answer{Values: []impl.Term{number(1), bad}})
	}
	for i, a := range answers {
		for j, b := range answers {
			if j >= 14 && i >= 14 && i != j {
				continue
			}
			if got := impl.AnswerSame(a, b); got != (i == j) {
				t.Errorf("AnswerSame of the answers %d and %d = %v", i, j, got)
			}
		}
		again := impl.Answer{Values: slices.Clone(a.Values)}
		if !impl.AnswerSame(a, again) || !impl.AnswerSame(again, a) {
			t.Errorf("AnswerSame of the answer %d and its copy = false", i)
		}
	}
	if !impl.AnswerSame(impl.Answer{}, impl.Answer{Values: []impl.Term{}}) {
		t.Error("AnswerSame of two empty answers = false")
	}
	if !impl.AnswerSame(impl.Answer{Values: []impl.Term{selfContaining("f")}}, impl.Answer{Values: []impl.Term{selfContaining("f")}}) {
		t.Error("AnswerSame of values that contain themselves = false")
	}
	inTime(t, func() {
		x, y := number(1), number(1)
		for range 60 {
			x, y = structure("f", x, x), structure("f", y, y)
		}
		if !impl.AnswerSame(impl.Answer{Values: []impl.Term{x, y}}, impl.Answer{Values: []impl.Term{y, x}}) {
			t.Error("AnswerSame of large answers = false")
		}
	})
}

func TestPureProgram(t *testing.T) {
	for _, body := range []string{"", "q", "q(A),r", "A=B", "A=f(B)", "true", "fail", "q,true,A=1,r(A),fail", "true(A)", "fail(1,2)", "var", "var(A,B)", "nosuch(A)", "p(!)", "p(A<B)", "A=(B<C)", "arg(1)", "int", "A=(!)"} {
		text := "p(A)."
		if body != "" {
			text = "p(A):-" + body + "."
		}
		if !impl.PureProgram(mustProgram(t, "q.", text, "r(A):-q.")) {
			t.Errorf("PureProgram of a program with %s = false", text)
		}
	}
	for _, goal := range []string{"!", "A\\=B", "A==B", "A is B", "A<B", "A>B", "A=<B", "A>=B", "A=:=B", "var(A)", "nonvar(A)", "atom(A)", "int(A)", "arg(A,B,C)"} {
		for _, body := range []string{goal, "q," + goal, goal + ",q", "true," + goal + ",A=B"} {
			for _, p := range [][]string{{"p:-" + body + "."}, {"q.", "p(A):-" + body + "."}, {"p(A):-" + body + ".", "q:-true."}, {"q.", "p(1):-" + body + ".", "r:-q."}} {
				if impl.PureProgram(mustProgram(t, p...)) {
					t.Errorf("PureProgram of a program with %s = true", body)
				}
			}
		}
	}
	if !impl.PureProgram(nil) || !impl.PureProgram(slices.Repeat(mustProgram(t, "p:-p,p,p,p,p,p."), impl.MaxClauses)) {
		t.Error("PureProgram = false")
	}
	if impl.PureProgram(slices.Repeat(mustProgram(t, "p."), impl.MaxClauses+1)) {
		t.Error("PureProgram of too many clauses = true")
	}
	for name, bad := range invalidClauses() {
		if impl.PureProgram([]impl.Clause{bad}) || impl.PureProgram([]impl.Clause{{Head: structure("p")}, bad}) {
			t.Errorf("%s: PureProgram = true", name)
		}
	}
}

// TestAnswersHold checks that the goals of an answer hold as they stand: with atoms for the variables that are
// left, the search that found them finds that they hold.
func TestAnswersHold(t *testing.T) {
	s := source{state: 33}
	held := 0
	for range 4000 {
		p, query := s.knownProgram(), s.knownQuery()
		if !impl.PureProgram(p) || !impl.PureProgram([]impl.Clause{{Head: structure("p"), Body: query}}) {
			continue
		}
		answers, _ := impl.Solve(p, query, 6, 60)
		for _, a := range answers {
			goals, ok := impl.AnswerGoals(query, a)
			if !ok {
				t.Fatalf("AnswerGoals(%s, %v) = %v, %v", writeAll(query), a, goals, ok)
			}
			for i := range goals {
				goals[i] = frozen(goals[i])
			}
			again, end := impl.Solve(p, goals, 1, impl.MaxFuel)
			if len(again) == 0 && end != impl.EndFuel && end != impl.EndLarge {
				t.Errorf("Solve(%s) finds %s, but %s does not hold: %s, for\n%s", writeAll(query), impl.FormatAnswer(query, a), writeAll(goals), endName(end), impl.FormatProgram(p))
			}
			held += len(again)
		}
	}
	if held < 500 {
		t.Errorf("only %d answers were found to hold", held)
	}
}

func TestSearchesShareNoMemory(t *testing.T) {
	const want = "A=f(g(1),B);B=g(1);C=f(g(1),A) & A=h(g(2));B=h(g(2));C=k"
	p := mustProgram(t, "p(f(g(1),A),g(1),f(g(1),B)).", "p(A,A,k):-A=h(g(2)).")
	query := mustQuery(t, "p(A,B,C)")
	texts := impl.FormatProgram(p) + writeAll(query)
	solve := func() string {
		answers, _ := impl.Solve(p, query, 5, 5)
		return formatAnswers(query, answers)
	}
	found := strings.Replace(want, "f(g(1),B);B=g(1);C=f(g(1),A)", "f(g(1),A);B=g(1);C=f(g(1),B)", 1)
	if got := solve(); got != found {
		t.Fatalf("Solve = %s, not %s", got, found)
	}
	first, _ := impl.Solve(p, query, 5, 5)
	second, _ := impl.Solve(p, query, 5, 5)
	goals, _ := impl.AnswerGoals(query, first[0])
	vars := impl.QueryVars(query)
	if got := impl.FormatProgram(p) + writeAll(query); got != texts {
		t.Errorf("an argument was changed: %s", got)
	}
	overwriteClauses(p)
	asked := mustQuery(t, "p(A,B,C)")
	overwrite(query)
	if got := formatAnswers(asked, first); got != found {
		t.Errorf("answers share memory with an argument: %s", got)
	}
	if got := formatAll(goals); got != "p(f(g(1),A),g(1),f(g(1),B))" || !slices.Equal(vars, []int{0, 1, 2}) {
		t.Errorf("results share memory with an argument: %s and %v", got, vars)
	}
	overwrite(goals)
	overwrite(first[1].Values[0].Kids)
	if got := formatAnswers(asked, first); got != strings.Replace(found, "A=h(g(2))", "A=h(77)", 1) {
		t.Errorf("parts of the answers share memory: %s", got)
	}
	for _, a := range first[:cap(first)] {
		overwrite(a.Values)
	}
	if got := formatAnswers(asked, second); got != found {
		t.Errorf("two results of Solve share memory: %s", got)
	}
}

func TestGoalsOfAnswersShareNoMemory(t *testing.T) {
	query := mustQuery(t, "p(A,A),q(A),r(g(1))")
	a := answerOf(t, "f(g(1))")
	goals, _ := impl.AnswerGoals(query, a)
	again, _ := impl.AnswerGoals(query, a)
	overwrite(query)
	overwrite(a.Values)
	if got := formatAll(goals); got != "p(f(g(1)),f(g(1))) q(f(g(1))) r(g(1))" {
		t.Errorf("AnswerGoals shares memory with its arguments: %s", got)
	}
	overwrite(goals[0].Kids[:1:1])
	if got := formatAll(goals); got != "p(77,f(g(1))) q(f(g(1))) r(g(1))" {
		t.Errorf("parts of a result of AnswerGoals share memory: %s", got)
	}
	overwrite(goals)
	if got := formatAll(again); got != "p(f(g(1)),f(g(1))) q(f(g(1))) r(g(1))" {
		t.Errorf("two results of AnswerGoals share memory: %s", got)
	}
	const text = "p(f(g(1)),f(g(1))),q(f(g(1)))"
	first, second := mustQuery(t, text), mustQuery(t, text)
	overwrite(first[0].Kids[:1:1])
	if got := formatAll(first); got != "p(77,f(g(1))) q(f(g(1)))" {
		t.Errorf("parts of a result of ParseQuery share memory: %s", got)
	}
	overwrite(first)
	if got := writeAll(second); got != text {
		t.Errorf("two results of ParseQuery share memory: %s", got)
	}
	vars, others := impl.QueryVars(mustQuery(t, "p(C,A,B)")), impl.QueryVars(mustQuery(t, "p(C,A,B)"))
	vars = vars[:cap(vars)]
	for i := range vars {
		vars[i] = 99
	}
	if !slices.Equal(others, []int{2, 0, 1}) {
		t.Errorf("two results of QueryVars share memory: %v", others)
	}
}

// TestSearchesChangeNothing has arguments with memory beyond their length.
func TestSearchesChangeNothing(t *testing.T) {
	kids := []impl.Term{variable(9), structure("f", variable(4)), number(7), number(8)}
	goal := impl.Term{Kind: impl.TermStruct, Name: "q", Kids: kids[:2]}
	goals := []impl.Term{goal, structure("!"), number(5), number(6)}
	values := []impl.Term{number(1), structure("f", number(2)), number(3), number(4)}
	c := impl.Clause{Head: goal, Body: goals[1:2]}
	p := []impl.Clause{c, {Head: goal}, {Head: structure("last")}}
	a := impl.Answer{Values: values[:2]}
	impl.QueryValid(goals[:2])
	impl.QueryVars(goals[:2])
	impl.AnswerGoals(goals[:2], a)
	impl.AnswerSame(a, impl.Answer{Values: values[1:3]})
	impl.FormatAnswer(goals[:2], a)
	impl.PureProgram(p[:2])
	for most := range 3 {
		for fuel := range 4 {
			impl.Solve(p[:2], goals[:2], most, fuel)
			impl.Solve(p[:2], goals[:1], most, fuel)
		}
	}
	if got := formatAll(kids) + " " + formatAll(goals) + " " + formatAll(values); got != "J f(E) 7 8 q(J,f(E)) ! 5 6 1 f(2) 3 4" {
		t.Errorf("an argument was changed: %s", got)
	}
	if got := impl.FormatProgram(p); got != "q(J,f(E)):-!.\nq(J,f(E)).\nlast.\n" {
		t.Errorf("an argument was changed: %s", got)
	}
}
