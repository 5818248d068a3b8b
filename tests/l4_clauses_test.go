package tests

import (
	"slices"
	"strings"
	"testing"

	"loop.example/prologserver/impl"
)

// mustClause returns the clause with a text, which must be the text of a valid clause.
func mustClause(t *testing.T, text string) impl.Clause {
	t.Helper()
	c, ok := impl.ParseClause(text)
	if !ok || !impl.ClauseValid(c) || impl.FormatClause(c) != text {
		t.Fatalf("ParseClause(%q) = %v, %v, and its text is %q", text, c, ok, impl.FormatClause(c))
	}
	return c
}

// mustProgram returns the program with some clauses.
func mustProgram(t *testing.T, clauses ...string) []impl.Clause {
	t.Helper()
	text := strings.Join(append(slices.Clone(clauses), ""), "\n")
	p, ok := impl.ParseProgram(text)
	if !ok || !impl.ProgramValid(p) || len(p) != len(clauses) || impl.FormatProgram(p) != text {
		t.Fatalf("ParseProgram(%q) = %v, %v, and its text is %q", text, p, ok, impl.FormatProgram(p))
	}
	return p
}

// isZero reports whether c is the zero value.
func isZero(c impl.Clause) bool {
	return impl.TermSame(c.Head, impl.Term{}) && len(c.Body) == 0
}

// clauseOf returns a clause made from texts of chapter 1.
func clauseOf(t *testing.T, head string, body ...string) impl.Clause {
	t.Helper()
	return impl.Clause{Head: mustParse(t, head), Body: mustParseAll(t, body...)}
}

// repeated returns a clause with this number of goals.
func repeated(goals int, goal impl.Term) impl.Clause {
	return impl.Clause{Head: structure("p"), Body: slices.Repeat([]impl.Term{goal}, goals)}
}

// builtinNames has the names that are built in, with their number of arguments.
func builtinNames() map[string]int {
	return map[string]int{
		"=": 2, "\\=": 2, "==": 2, "<": 2, ">": 2, "=<": 2, ">=": 2, "=:=": 2, "is": 2,
		"true": 0, "fail": 0, "var": 1, "nonvar": 1, "atom": 1, "int": 1, "arg": 3,
	}
}

// allNames has all names that do not consist of letters, and some that do.
func allNames() []string {
	return []string{
		"+", "-", "*", "//", "=", "\\=", "==", "<", ">", "=<", ">=", "=:=", ".", "[]", "!",
		"is", "mod", "true", "fail", "var", "nonvar", "atom", "int", "arg",
		"a", "z", "i", "isa", "mo", "modd", "tru", "truey", "append", "cut", "not", "args",
	}
}

func TestIsBuiltin(t *testing.T) {
	known := builtinNames()
	for _, name := range append(allNames(), "", "A", "isis ", "is ", " is ", ":-", "\\", "number", "halt", "trueX", "nonvars") {
		for arity := -2; arity <= impl.MaxArity+2; arity++ {
			want, ok := known[name]
			if got := impl.IsBuiltin(name, arity); got != (ok && arity == want) {
				t.Errorf("IsBuiltin(%q, %d) = %v", name, arity, got)
			}
		}
	}
}

// TestGoalsOfAllNames checks each name with each number of arguments against the definition.
func TestGoalsOfAllNames(t *testing.T) {
	known := builtinNames()
	for _, name := range allNames() {
		for arity := 0; arity <= impl.MaxArity; arity++ {
			x := structure(name, slices.Repeat([]impl.Term{variable(2)}, arity)...)
			level, _ := impl.OpLevel(name)
			number, listed := known[name]
			builtin := listed && number == arity
			plain := name[0] >= 'a' && name[0] <= 'z' && level == 0 && !builtin
			cut := name == "!" && arity == 0
			if got := impl.GoalValid(x); got != (plain || builtin || cut) {
				t.Errorf("GoalValid(%s) = %v", impl.FormatTerm(x), got)
			}
			if got := impl.ClauseValid(impl.Clause{Head: x}); got != plain {
				t.Errorf("%s as a head: ClauseValid = %v", impl.FormatTerm(x), got)
			}
			if got := impl.ClauseValid(repeated(1, x)); got != (plain || builtin || cut) {
				t.Errorf("%s as a goal: ClauseValid = %v", impl.FormatTerm(x), got)
			}
			found := impl.ClausesFor([]impl.Clause{{Head: structure("p")}, {Head: x}}, x)
			if plain && !slices.Equal(found, []int{1}) || !plain && len(found) > 0 {
				t.Errorf("ClausesFor(%s) = %v", impl.FormatTerm(x), found)
			}
		}
	}
}

func TestGoalValid(t *testing.T) {
	for _, text := range []string{"p", "p(A)", "p(1,a,[],[A|B])", "!", "true", "fail", "=(A,B)", "is(A,+(B,1))", "arg(1,A,B)", "true(A)", "fail(A,B)", "var", "var(A,B)", "arg", "arg(A)", "arg(A,B,C,D)", "int", "atom(A,B,C)"} {
		if !impl.GoalValid(mustParse(t, text)) {
			t.Errorf("GoalValid(%s) = false", text)
		}
	}
	for _, text := range []string{"A", "1", "-1", "[]", "[a]", "!(a)", "!(!)", ".", ".(a)", "=", "=(A)", "=(A,B,C)", "is", "is(A)", "is(A,B,C)", "mod", "mod(A)", "mod(A,B)", "+(A,B)", "-(1)", "*", "//(A,B)"} {
		if impl.GoalValid(mustParse(t, text)) {
			t.Errorf("GoalValid(%s) = true", text)
		}
	}
	for name, x := range invalidTerms() {
		for _, bad := range []impl.Term{x, structure("p", x), structure("=", variable(0), x)} {
			if impl.GoalValid(bad) {
				t.Errorf("GoalValid holds for %s", name)
			}
		}
	}
}

// TestClausesAreWritten has clauses in the texts of chapter 1, and last their own text.
func TestClausesAreWritten(t *testing.T) {
	cases := [][]string{
		{"p", "p."}, {"p(A)", "p(A)."}, {"p(1)", "p(1)."}, {"p(-1)", "p(-1)."}, {"p([])", "p([])."}, {"p(.)", "p(.)."}, {"p(!)", "p(!)."},
		{"p(+(A,1),is(B,C))", "p(A+1,B is C)."}, {"p([=(A,B)|-(1,2)])", "p([A=B|1-2])."}, {"true(A)", "true(A)."}, {"var", "var."},
		{"p", "q", "p:-q."}, {"p", "!", "p:-!."}, {"p", "true", "p:-true."}, {"p", "q", "!", "p:-q,!."}, {"p", "!", "!", "fail", "p:-!,!,fail."},
		{"len([A|B],C)", "len(B,D)", "is(C,+(D,1))", "len([A|B],C):-len(B,D),C is D+1."},
		{"q(A)", "p(A)", ">(A,1)", "!", "q(A):-p(A),A>1,!."},
		{"p(A)", "=(A,!)", "q(A,f(.))", "p(A):-A=(!),q(A,f(.))."},
		{"p(A,B)", "=(A,=(B,1))", "=(=(A,B),1)", "p(A,B):-A=(B=1),(A=B)=1."},
		{"p", "is(A,-(1,-(2,3)))", "p:-A is 1-(2-3)."}, {"p", "is(A,mod(7,-3))", "p:-A is 7 mod (-3)."},
		{"p", "=(-1,A)", "p:--1=A."}, {"p", "=<(A,//(B,2))", "=:=(A,*(B,3))", "p:-A=<B//2,A=:=B*3."},
		{"p", "==(A,[])", "\\=(A,-)", "p:-A==[],A\\=(-)."}, {"p", "is(is,mod)", "p:-(is) is (mod)."}, {"p", "=(.,[])", "=([],.)", "p:-.=[],[]=(.)."},
		{"p", "true(A)", "fail(A,B)", "var", "arg(A)", "p:-true(A),fail(A,B),var,arg(A)."},
		{"p", "arg(1,f(a),A)", "nonvar(A)", "atom(A)", "int(A)", "p:-arg(1,f(a),A),nonvar(A),atom(A),int(A)."},
	}
	for _, c := range cases {
		text := c[len(c)-1]
		made := clauseOf(t, c[0], c[1:len(c)-1]...)
		if got := impl.FormatClause(made); got != text || !impl.ClauseValid(made) {
			t.Errorf("FormatClause = %q, not %q", got, text)
		}
		if read := mustClause(t, text); !impl.ClauseSame(read, made) {
			t.Errorf("ParseClause(%q) = %v, not %v", text, read, made)
		}
	}
}

// TestDotsBehindSigns has the dot behind atoms of signs, or behind what ends with one.
func TestDotsBehindSigns(t *testing.T) {
	for _, name := range allNames() {
		sign := structure(name)
		pairs := []impl.Term{structure("=", variable(0), sign), structure("=", sign, variable(0)), structure("==", sign, sign)}
		for _, goal := range append(pairs, structure("q", sign), structure("is", variable(0), structure("-", sign))) {
			c := impl.Clause{Head: structure("p", sign), Body: []impl.Term{goal}}
			text := impl.FormatClause(c)
			if want := impl.WriteTerm(c.Head) + ":-" + impl.WriteTerm(goal) + "."; text != want {
				t.Errorf("FormatClause = %q, not %q", text, want)
			}
			if back := mustClause(t, text); !impl.ClauseSame(back, c) {
				t.Errorf("ParseClause(%q) = %v", text, back)
			}
		}
	}
	for text, ok := range map[string]bool{
		"p:-!.": true, "p:-!..": false, "p:-(!).": false, "p:-A=(!).": true, "p:-A=!.": false, "p:-A=[].": true, "p:-A=(.).": true, "p:-A=..": false, "p:-A=.": false,
		"p:-.=A.": true, "p:-(.)=A.": false, "p:-A=1.": true, "p:-A=1..": false, "p:-A=1.0.": false, "p:-A=a.": true, "p:-A=(-1).": true, "p:-A=(+).": true, "p:-A=+.": false, "p:-A=(=).": true,
	} {
		if _, got := impl.ParseClause(text); got != ok {
			t.Errorf("ParseClause(%q) = %v", text, got)
		}
	}
}

func TestParseClauseRefuses(t *testing.T) {
	texts := []string{
		"", ".", "p", "p:-q", "p,q.", "p..", "p. ", " p.", "p .", "p.\n", "\np.", "p.q.", "p.p", "p(A", "p(A.", "(p).", "p().", "p(A)).", "P.", "p\x00.", "\xff.",
		":-.", ":-q.", "p:-.", "p:-,.", "p:-q,.", "p:-,q.", "p:-q,,q.", "p:-q;q.", "p:-(q).", "p:-(q,q).", "p:-q:-q.", "p:q.", "p-q.", "p:- q.", "p :-q.", "p:-q, q.", "p:-q ,q.", "p:-q .", "p:--q.", "p: -q.",
		"A.", "1.", "-1.", "[].", "[a].", "[a|A].", "+.", "!.", "..", "true.", "fail.", "var(A).", "nonvar(A).", "atom(A).", "int(A).", "arg(1,A,B).", "A=B.", "A is 1.", "A<1.", "a+b.", "a mod b.", "is.", "mod.", "is(A).", "mod(A).", "=(A).", "!(a).", "is(A,B,C).",
		"p:-A.", "p:-1.", "p:--1.", "p:-[].", "p:-[a].", "p:-..", "p:-a+b.", "p:-a*b.", "p:-a mod b.", "p:-is.", "p:-is(A).", "p:-mod(A).", "p:-=.", "p:-=(A).", "p:-!(a).", "p:-q,A.", "p:-A,q.", "p:-q,1,q.",
		"p:-=(A,B).", "p:-is(A,B).", "p:-A  is B.", "p:-A = B.", "p:-A=(B).", "p:-(A)=B.", "p:-(A=B).", "p:-A=B=C.", "p:-A=1+(2).", "p:-A=(1+2).", "p:-A=(1)-2.", "p:-A=-1.", "p:-A=01.", "p:-A=1000.", "p:-A=-0.",
		"p([a|[b]]).", "p([a|[]]).", "p(.(a,b)).", "p(+(A,B)).", "p((A+B)).", "p((A)).", "p(A, B).", "p(A,B,C,D,E).", "p(1000).", "p(00).", "p(abcdefg).", "abcdefg.", "p(a1).", "p(_).", "p(\"a\").",
	}
	for _, text := range texts {
		if c, ok := impl.ParseClause(text); ok || !isZero(c) {
			t.Errorf("ParseClause(%q) = %v, %v", text, c, ok)
		}
	}
}

// textOfClause derives, without the reader of clauses, whether a text is that of a clause: every way to
// cut it into terms at :- and at commas is tried.
func textOfClause(text string) bool {
	inner, dot := strings.CutSuffix(text, ".")
	head, body, hasBody := strings.Cut(inner, ":-")
	if !dot || !isWritten(head) || !impl.ClauseValid(impl.Clause{Head: readGoal(head)}) {
		return false
	}
	return !hasBody || textOfGoals(body, impl.MaxGoals)
}

func textOfGoals(text string, most int) bool {
	if most == 0 {
		return false
	}
	if isWritten(text) {
		return true
	}
	for i := range len(text) {
		if text[i] == ',' && isWritten(text[:i]) && textOfGoals(text[i+1:], most-1) {
			return true
		}
	}
	return false
}

func readGoal(text string) impl.Term {
	x, _ := impl.ReadTerm(text)
	return x
}

// isWritten reports whether WriteTerm writes a goal so.
func isWritten(text string) bool {
	x := readGoal(text)
	return text != "" && impl.WriteTerm(x) == text && impl.GoalValid(x)
}

// TestParseClauseOfManyTexts compares what is accepted with what is derived.
func TestParseClauseOfManyTexts(t *testing.T) {
	accepted := 0
	check := func(text string) {
		c, ok := impl.ParseClause(text)
		if want := textOfClause(text); ok != want || !ok && !isZero(c) {
			t.Fatalf("ParseClause(%q) = %v, %v, not %v", text, c, ok, want)
		}
		if !ok {
			return
		}
		accepted++
		if got := impl.FormatClause(c); got != text || !impl.ClauseValid(c) {
			t.Fatalf("ParseClause(%q) = %v, and its text is %q", text, c, got)
		}
	}
	combine([]string{"p", "q(", ")", ":-", ",", ".", "A", "!", "=", "1", "-"}, 5, func(text string) {
		check(text)
		check("p:-" + text + ".")
	})
	s := source{state: 11}
	for range 30000 {
		text := []byte(impl.FormatClause(s.clause()))
		if len(text) > 0 && len(text) < 80 {
			text[s.below(len(text))] = "Ap1-=<*()[],.:!| \n"[s.below(18)]
			check(string(text))
		}
	}
	if accepted < 1500 {
		t.Errorf("only %d texts were accepted", accepted)
	}
}

// goal returns a goal, or rarely a term that is none.
func (s *source) goal() impl.Term {
	switch s.below(8) {
	case 0:
		return structure("!")
	case 1:
		return s.operations(s.below(4))
	case 2:
		names := []string{"=", "\\=", "==", "<", ">", "=<", ">=", "=:=", "is"}
		return structure(names[s.below(len(names))], s.operations(s.below(3)), s.operations(s.below(3)))
	}
	return s.plainGoal()
}

func (s *source) plainGoal() impl.Term {
	names := []string{"p", "q", "abcdef", "z", "var", "true", "arg"}
	x := structure(names[s.below(len(names))])
	for range s.below(3) * 2 {
		x.Kids = append(x.Kids, s.operations(s.below(3)))
	}
	return x
}

// clause returns a clause, which is valid in most cases.
func (s *source) clause() impl.Clause {
	c := impl.Clause{Head: s.plainGoal()}
	for range s.below(impl.MaxGoals + 2) {
		c.Body = append(c.Body, s.goal())
	}
	return c
}

func TestClausesAreReadBack(t *testing.T) {
	s := source{state: 12}
	valid := 0
	texts := map[string]impl.Clause{}
	for range 20000 {
		c := s.clause()
		text := impl.FormatClause(c)
		if !impl.ClauseValid(c) {
			if text != "" {
				t.Fatalf("FormatClause of a clause that is not valid = %q", text)
			}
			continue
		}
		valid++
		back, ok := impl.ParseClause(text)
		if len(text) <= 1000 && (!ok || !impl.ClauseSame(back, c)) {
			t.Fatalf("ParseClause(%q) = %v, %v, not %v", text, back, ok, c)
		}
		if other, known := texts[text]; known && !impl.ClauseSame(other, c) {
			t.Fatalf("two clauses are written as %q", text)
		}
		texts[text] = c
	}
	if valid < 5000 {
		t.Errorf("only %d clauses were valid", valid)
	}
}

func TestBodiesAtTheLimit(t *testing.T) {
	for goals := range impl.MaxGoals + 3 {
		want := goals <= impl.MaxGoals
		for _, goal := range []impl.Term{structure("q"), structure("!"), structure("true"), structure("=", variable(0), number(1))} {
			c := repeated(goals, goal)
			text := "p."
			if goals > 0 {
				text = "p:-" + strings.Repeat(","+impl.WriteTerm(goal), goals)[1:] + "."
			}
			read, ok := impl.ParseClause(text)
			if impl.ClauseValid(c) != want || ok != want || ok && !impl.ClauseSame(read, c) || !ok && !isZero(read) {
				t.Errorf("%d goals: ClauseValid = %v, and ParseClause(%q) = %v, %v", goals, impl.ClauseValid(c), text, read, ok)
			}
			if got := impl.FormatClause(c); want && got != text || !want && got != "" {
				t.Errorf("%d goals: FormatClause = %q", goals, got)
			}
		}
	}
}

// TestTermsOfClausesAtTheLimits has heads and goals that are as large as they can be, and larger by one.
func TestTermsOfClausesAtTheLimits(t *testing.T) {
	cases := []struct {
		goal impl.Term
		want bool
	}{
		{bush(impl.MaxNodes), true}, {bush(impl.MaxNodes + 1), false}, {chain(impl.MaxDepth), true}, {chain(impl.MaxDepth + 1), false},
		{structure("p", variable(impl.MaxVar)), true}, {structure("p", variable(impl.MaxVar+1)), false},
		{structure("p", number(impl.MaxInt)), true}, {structure("p", number(-impl.MaxInt-1)), false},
		{structure("abcdef"), true}, {structure("abcdefg"), false},
		{structure("p", slices.Repeat([]impl.Term{number(0)}, 4)...), true}, {structure("p", slices.Repeat([]impl.Term{number(0)}, 5)...), false},
	}
	for i, c := range cases {
		last := repeated(impl.MaxGoals, structure("q"))
		last.Body[impl.MaxGoals-1] = c.goal
		for _, x := range []impl.Clause{{Head: c.goal}, repeated(1, c.goal), last} {
			if got := impl.ClauseValid(x); got != c.want {
				t.Errorf("case %d: ClauseValid = %v", i, got)
			}
			if text := impl.FormatClause(x); c.want {
				mustClause(t, text)
			} else if text != "" {
				t.Errorf("case %d: FormatClause = %q", i, text)
			}
		}
	}
	// The limits are those of each term, and not of a clause.
	mustClause(t, impl.FormatClause(impl.Clause{Head: bush(impl.MaxNodes), Body: []impl.Term{bush(impl.MaxNodes), chain(impl.MaxDepth)}}))
}

// shares divides a number among this many places.
func shares(total int, places int) []int {
	var list []int
	for ; places > 0; places-- {
		list = append(list, total/places)
		total -= total / places
	}
	return list
}

// sized returns a plain goal whose text has this length.
func sized(length int) impl.Term {
	if length <= impl.MaxName {
		return structure(strings.Repeat("a", length))
	}
	if length < 10 {
		return structure("a", sized(length-3))
	}
	x := structure("a")
	for _, share := range shares(length-6, 4) {
		x.Kids = append(x.Kids, sized(share))
	}
	return x
}

// lengthy returns a clause whose text has this length.
func lengthy(t *testing.T, length int) impl.Clause {
	t.Helper()
	sizes := shares(length-len(":-,,,,,."), impl.MaxGoals+1)
	c := impl.Clause{Head: sized(sizes[0])}
	for _, size := range sizes[1:] {
		c.Body = append(c.Body, sized(size))
	}
	if !impl.ClauseValid(c) || len(impl.FormatClause(c)) != length {
		t.Fatalf("a clause of %d bytes has %d", length, len(impl.FormatClause(c)))
	}
	return c
}

func TestTextsOfClausesAtTheLimit(t *testing.T) {
	for length := 990; length <= 1010; length++ {
		c := lengthy(t, length)
		text := impl.FormatClause(c)
		back, ok := impl.ParseClause(text)
		if want := length <= 1000; ok != want || ok && !impl.ClauseSame(back, c) || !ok && !isZero(back) {
			t.Errorf("ParseClause of %d bytes = %v, %v", length, back, ok)
		}
		p, ok := impl.ParseProgram("p.\n" + text + "\n")
		if want := length <= 1000; ok != want || ok && !impl.ClauseSame(p[1], c) || !ok && len(p) != 0 {
			t.Errorf("ParseProgram of a line of %d bytes = %v, %v", length, p, ok)
		}
		// The text of a valid clause is written, even if it is too long to be read.
		if got := impl.FormatProgram([]impl.Clause{c, c}); got != text+"\n"+text+"\n" {
			t.Errorf("FormatProgram of clauses of %d bytes = %q", length, got)
		}
	}
}

func TestRenumberClause(t *testing.T) {
	cases := [][2]string{
		{"p.", "p."}, {"p(A).", "p(A)."}, {"p(Z).", "p(A)."}, {"p(C,A):-q(B,C).", "p(A,B):-q(C,A)."}, {"p:-q(Z,Y),r(Y,X),Z is Y+X.", "p:-q(A,B),r(B,C),A is B+C."},
		{"p(B,A,B):-A=B.", "p(A,B,A):-B=A."}, {"p(A):-!,q(1,f(.)).", "p(A):-!,q(1,f(.))."}, {"p([D,C|D],f(B)):-true,[C]=A.", "p([A,B|A],f(C)):-true,[B]=D."},
		{"p(Z,Y,X,W):-q(V,U,T,S),q(R,Q,P,O),q(N,M,L,K),q(J,I,H,G),q(F,E,D,C),q(B,A,Z,A).", "p(A,B,C,D):-q(E,F,G,H),q(I,J,K,L),q(M,N,O,P),q(Q,R,S,T),q(U,V,W,X),q(Y,Z,A,Z)."},
	}
	for _, c := range cases {
		got, ok := impl.RenumberClause(mustClause(t, c[0]))
		if !ok || impl.FormatClause(got) != c[1] {
			t.Errorf("RenumberClause(%s) = %s, %v, not %s", c[0], impl.FormatClause(got), ok, c[1])
		}
	}
	s := source{state: 13}
	for range 3000 {
		c := s.clause()
		got, ok := impl.RenumberClause(c)
		if ok != impl.ClauseValid(c) || !ok && !isZero(got) {
			t.Fatalf("RenumberClause(%v) = %v, %v", c, got, ok)
		}
		if !ok {
			continue
		}
		want, _ := impl.RenumberTerms(append([]impl.Term{c.Head}, c.Body...))
		if !impl.ClauseSame(got, impl.Clause{Head: want[0], Body: want[1:]}) {
			t.Fatalf("RenumberClause(%s) = %s", impl.FormatClause(c), impl.FormatClause(got))
		}
	}
}

func TestClauseSame(t *testing.T) {
	clauses := []impl.Clause{
		mustClause(t, "p."), mustClause(t, "q."), mustClause(t, "p(A)."), mustClause(t, "p(B)."), mustClause(t, "p:-q."), mustClause(t, "p:-p."), mustClause(t, "p:-q,q."), mustClause(t, "p:-q,r."), mustClause(t, "p:-r,q."),
		mustClause(t, "p:-q(f(1))."), mustClause(t, "p:-q(f(2))."), mustClause(t, "p:-!."), {}, {Body: []impl.Term{{}}}, {Body: []impl.Term{{}, {}}}, {Head: structure("p"), Body: []impl.Term{{Kind: 9, N: 4}}},
		{Head: number(1)}, {Head: selfContaining("f")}, {Head: selfContaining("g")}, {Head: structure("p"), Body: []impl.Term{selfContaining("f")}}, repeated(impl.MaxGoals+1, structure("q")), repeated(100, structure("q")),
	}
	for i, a := range clauses {
		for j, b := range clauses {
			if got := impl.ClauseSame(a, b); got != (i == j) {
				t.Errorf("ClauseSame(%d, %d) = %v", i, j, got)
			}
		}
	}
	if !impl.ClauseSame(impl.Clause{Head: structure("p")}, impl.Clause{Head: impl.Term{Kind: impl.TermStruct, Name: "p", Kids: []impl.Term{}}, Body: []impl.Term{}}) {
		t.Error("ClauseSame tells nil from empty slices")
	}
	if !impl.ClauseSame(impl.Clause{Head: selfContaining("f")}, impl.Clause{Head: selfContaining("f")}) {
		t.Error("ClauseSame tells heads that are equal at every level")
	}
}

func TestClauseSameOfLargeClauses(t *testing.T) {
	large := func() impl.Clause {
		x := structure("f", slices.Repeat([]impl.Term{structure("a")}, 20000)...)
		return repeated(20000, x)
	}
	inTime(t, func() {
		if !impl.ClauseSame(large(), large()) {
			t.Error("ClauseSame = false")
		}
	})
}

// invalidClauses returns clauses that are not valid, by what is wrong with them.
func invalidClauses() map[string]impl.Clause {
	fine := structure("p")
	bad := map[string]impl.Clause{
		"the zero value":     {},
		"a variable as head": {Head: variable(0)},
		"a number as head":   {Head: number(1)},
		"a list as head":     {Head: structure(".", number(1), structure("[]"))},
		"the cut as head":    {Head: structure("!")},
		"true as head":       {Head: structure("true")},
		"= as head":          {Head: structure("=", variable(0), variable(1))},
		"is as head":         {Head: structure("is", variable(0))},
		"a variable as goal": {Head: fine, Body: []impl.Term{variable(0)}},
		"a number as goal":   {Head: fine, Body: []impl.Term{fine, number(1)}},
		"a sum as goal":      {Head: fine, Body: []impl.Term{structure("+", number(1), number(2)), fine}},
		"= with 1 argument":  repeated(1, structure("=", variable(0))),
		"the atom is":        repeated(1, structure("is")),
		"the cut of a":       repeated(1, structure("!", structure("a"))),
		"too many goals":     repeated(impl.MaxGoals+1, fine),
		"many goals":         repeated(100000, fine),
	}
	for name, x := range invalidTerms() {
		bad[name+" as head"] = impl.Clause{Head: x}
		bad[name+" as goal"] = repeated(1, x)
		bad[name+" as last goal"] = impl.Clause{Head: fine, Body: []impl.Term{fine, structure("!"), x}}
		bad[name+" in the head"] = impl.Clause{Head: structure("p", x)}
		bad[name+" in a goal"] = repeated(2, structure("=", variable(0), x))
	}
	return bad
}

func TestInvalidClauses(t *testing.T) {
	fine, goal := mustClause(t, "p:-q."), structure("p")
	for name, bad := range invalidClauses() {
		if impl.ClauseValid(bad) || impl.FormatClause(bad) != "" {
			t.Errorf("%s: ClauseValid = %v, FormatClause = %q", name, impl.ClauseValid(bad), impl.FormatClause(bad))
		}
		if c, ok := impl.RenumberClause(bad); ok || !isZero(c) {
			t.Errorf("%s: RenumberClause = %v, %v", name, c, ok)
		}
		for _, p := range [][]impl.Clause{{bad}, {bad, fine}, {fine, bad}, {fine, bad, fine}} {
			if impl.ProgramValid(p) || impl.FormatProgram(p) != "" {
				t.Errorf("%s: ProgramValid = %v, FormatProgram = %q", name, impl.ProgramValid(p), impl.FormatProgram(p))
			}
			if found, unknown := impl.ClausesFor(p, goal), impl.UnknownGoals(p); len(found) > 0 || len(unknown) > 0 {
				t.Errorf("%s: ClausesFor = %v, UnknownGoals = %v", name, found, unknown)
			}
		}
	}
}

func TestPrograms(t *testing.T) {
	mustProgram(t)
	mustProgram(t, "p.")
	mustProgram(t, "p.", "p.", "p.")
	mustProgram(t, "len([],0).", "len([A|B],C):-len(B,D),C is D+1.", "p(A):-A=(!),q(A,f(.)).", "q:-!.")
	for clauses := range impl.MaxClauses + 3 {
		p := slices.Repeat([]impl.Clause{mustClause(t, "p(A):-q(A).")}, clauses)
		text := strings.Repeat("p(A):-q(A).\n", clauses)
		read, ok := impl.ParseProgram(text)
		if want := clauses <= impl.MaxClauses; impl.ProgramValid(p) != want || ok != want || ok && len(read) != clauses || !ok && len(read) != 0 {
			t.Errorf("%d clauses: ProgramValid = %v, ParseProgram = %v, %v", clauses, impl.ProgramValid(p), read, ok)
		}
		if got := impl.FormatProgram(p); impl.ProgramValid(p) && got != text || !impl.ProgramValid(p) && got != "" {
			t.Errorf("%d clauses: FormatProgram = %q", clauses, got)
		}
		found, unknown := impl.ClausesFor(p, structure("p", number(1))), impl.UnknownGoals(p)
		if clauses > impl.MaxClauses && len(found)+len(unknown) > 0 || clauses <= impl.MaxClauses && (len(found) != clauses || len(unknown) != clauses) {
			t.Errorf("%d clauses: ClausesFor = %v, UnknownGoals = %v", clauses, found, unknown)
		}
	}
}

func TestParseProgramRefuses(t *testing.T) {
	texts := []string{
		"\n", "\n\n", "p.", "p.\nq.", "p.\n\n", "\np.\n", "p.\n\nq.\n", "p\n", "p.\nq\n", "q\np.\n", "p.q.\n", "p. q.\n", "p.\r\n", "p.\n ", " p.\n", "p.\n\x00", "p.\nA.\n", "p.\n\xff.\n", "\xff", "p.\xe2\n", "p\xe2\n.\n", "p:-\nq.\n",
		"p.\n!.\nq.\n", "true.\n", strings.Repeat("p.\n", impl.MaxClauses) + "\n", strings.Repeat("p.\n", impl.MaxClauses) + "p", strings.Repeat("\n", 100000), strings.Repeat("p.", 100000), strings.Repeat("p.\n", 100000),
	}
	for _, text := range texts {
		if p, ok := impl.ParseProgram(text); ok || len(p) != 0 {
			t.Errorf("ParseProgram(%.40q) = %v, %v", text, p, ok)
		}
	}
}

// program returns a program of clauses that are valid.
func (s *source) program() []impl.Clause {
	var p []impl.Clause
	for clauses := s.below(impl.MaxClauses + 1); len(p) < clauses; {
		if c := s.clause(); impl.ClauseValid(c) && len(impl.FormatClause(c)) <= 1000 {
			p = append(p, c)
		}
	}
	return p
}

func TestProgramsAreReadBack(t *testing.T) {
	s := source{state: 14}
	for range 300 {
		p := s.program()
		text := impl.FormatProgram(p)
		var want strings.Builder
		for _, c := range p {
			want.WriteString(impl.FormatClause(c) + "\n")
		}
		back, ok := impl.ParseProgram(text)
		if text != want.String() || !ok || !slices.EqualFunc(back, p, impl.ClauseSame) {
			t.Fatalf("ParseProgram(%q) = %v, %v, not %v", text, back, ok, p)
		}
	}
}

func TestClausesFor(t *testing.T) {
	p := mustProgram(t, "p(1).", "q:-p(A).", "p(A):-q(A),p(A,A).", "p(A,B):-A=B.", "p.", "var(A,B).", "p(2):-!.", "true(A).", "r(1,2,3,4).")
	cases := map[string][]int{
		"p(C)": {0, 2, 6}, "p(1)": {0, 2, 6}, "p(f(g))": {0, 2, 6}, "p": {4}, "p(A,B)": {3}, "p(A,B,C)": nil, "q": {1}, "q(A)": nil, "pp": nil, "r(A,A,A,A)": {8}, "r": nil,
		"var(1,2)": {5}, "var(1)": nil, "var": nil, "true": nil, "true(1)": {7}, "true(1,2)": nil, "!": nil, "!(p)": nil, "=(p,p)": nil, "fail": nil, "is(A,1)": nil, "is(A)": nil, "mod(A,B)": nil, "A": nil, "1": nil, "[]": nil, "[p]": nil,
	}
	for text, want := range cases {
		if got := impl.ClausesFor(p, mustParse(t, text)); !slices.Equal(got, want) {
			t.Errorf("ClausesFor(%s) = %v, not %v", text, got, want)
		}
	}
	for name, bad := range invalidTerms() {
		if got := append(impl.ClausesFor(p, bad), impl.ClausesFor(p, structure("p", bad))...); len(got) > 0 {
			t.Errorf("ClausesFor of %s = %v", name, got)
		}
	}
	if got := impl.ClausesFor(nil, structure("p")); len(got) > 0 {
		t.Errorf("ClausesFor in the empty program = %v", got)
	}
}

// TestClausesForByTheHeads compares ClausesFor with a look at each head, and UnknownGoals with ClausesFor.
func TestClausesForByTheHeads(t *testing.T) {
	s := source{state: 15}
	several, missing := 0, 0
	for range 300 {
		p := s.program()
		goals := []impl.Term{s.plainGoal(), s.goal()}
		var unknown []impl.Term
		for _, c := range p {
			goals = append(goals, c.Head)
			for _, g := range c.Body {
				goals = append(goals, g)
				plain := impl.ClauseValid(impl.Clause{Head: g})
				if plain && len(impl.ClausesFor(p, g)) == 0 {
					unknown = append(unknown, g)
				}
			}
		}
		for _, g := range goals {
			var want []int
			for i, c := range p {
				if impl.ClauseValid(impl.Clause{Head: g}) && c.Head.Name == g.Name && len(c.Head.Kids) == len(g.Kids) {
					want = append(want, i)
				}
			}
			if got := impl.ClausesFor(p, g); !slices.Equal(got, want) {
				t.Fatalf("ClausesFor(%s) = %v, not %v, in\n%s", impl.FormatTerm(g), got, want, impl.FormatProgram(p))
			}
			several += len(want) / 2
		}
		if got := impl.UnknownGoals(p); !slices.EqualFunc(got, unknown, impl.TermSame) {
			t.Fatalf("UnknownGoals = %s, not %s, in\n%s", formatAll(got), formatAll(unknown), impl.FormatProgram(p))
		}
		missing += len(unknown)
	}
	if several < 1000 || missing < 200 {
		t.Errorf("only %d and %d goals were compared", several, missing)
	}
}

func TestUnknownGoals(t *testing.T) {
	cases := []struct {
		clauses []string
		want    string
	}{
		{nil, ""}, {[]string{"p."}, ""}, {[]string{"p:-p."}, ""}, {[]string{"p:-q."}, "q"}, {[]string{"p:-q.", "q:-p."}, ""},
		{[]string{"p(1).", "p(A):-q(A),p(A,A).", "p(A,B):-A=B."}, "q(A)"},
		{[]string{"p:-q,r,q.", "s:-q,p.", "t:-r."}, "q r q q r"}, {[]string{"p:-q(A),q(B),q(A),q."}, "q(A) q(B) q(A) q"},
		{[]string{"p:-!,true,fail,A=B,A is B,var(A).", "q:-arg(1,A,B),A<B,A=:=B,int(A)."}, ""}, {[]string{"p:-!,true,q,A=B,r,fail."}, "q r"},
		{[]string{"p(A):-p,p(A),p(A,B).", "q:-p(1,[2]),var,true(q)."}, "p p(A,B) p(1,[2]) var true(q)"}, {[]string{"z:-b,a,c.", "b."}, "a c"},
	}
	for _, c := range cases {
		if got := impl.UnknownGoals(mustProgram(t, c.clauses...)); formatAll(got) != c.want {
			t.Errorf("UnknownGoals(%q) = %q, not %q", c.clauses, formatAll(got), c.want)
		}
	}
}

// overwriteClauses changes all memory of clauses.
func overwriteClauses(p []impl.Clause) {
	p = p[:cap(p)]
	for i := range p {
		overwrite([]impl.Term{p[i].Head})
		overwrite(p[i].Body)
		p[i] = impl.Clause{Head: number(77)}
	}
}

func TestClausesShareNoMemory(t *testing.T) {
	const text = "p(f(C,A)):-q(f(C,A)),q(f(C,A)),r."
	c := mustClause(t, text)
	p := []impl.Clause{c, c}
	renumbered, _ := impl.RenumberClause(c)
	unknown := impl.UnknownGoals(p)
	overwriteClauses(p)
	if got := impl.FormatClause(renumbered); got != "p(f(A,B)):-q(f(A,B)),q(f(A,B)),r." {
		t.Errorf("RenumberClause shares memory with its argument: %s", got)
	}
	if got := formatAll(unknown); got != "q(f(C,A)) q(f(C,A)) r q(f(C,A)) q(f(C,A)) r" {
		t.Errorf("UnknownGoals shares memory with its argument: %s", got)
	}
	overwrite(unknown[0].Kids)
	if got := formatAll(unknown[1:]); got != "q(f(C,A)) r q(f(C,A)) q(f(C,A)) r" {
		t.Errorf("parts of a result of UnknownGoals share memory: %s", got)
	}
	for _, one := range []impl.Clause{renumbered, mustClause(t, text)} {
		overwrite(one.Head.Kids)
		overwrite(one.Body[0].Kids)
		if got := impl.WriteTerm(one.Body[1]); got[:4] != "q(f(" {
			t.Errorf("parts of a clause share memory: %s", got)
		}
	}
	twice := mustProgram(t, text, text)
	overwriteClauses(twice[:1:1])
	if got := impl.FormatClause(twice[1]); got != text {
		t.Errorf("parts of a program share memory: %s", got)
	}
	if got := impl.FormatClause(mustClause(t, text)); got != text {
		t.Errorf("two results share memory: %s", got)
	}
}

func TestFoundClausesShareNoMemory(t *testing.T) {
	p := mustProgram(t, "p(1).", "p(2).", "q.", "p(3).", "p(4).", "p(5).")
	goal := structure("p", variable(0))
	first := impl.ClausesFor(p, goal)
	second := impl.ClausesFor(p, goal)
	first = first[:cap(first)]
	for i := range first {
		first[i] = 99
	}
	if want := []int{0, 1, 3, 4, 5}; !slices.Equal(second, want) || !slices.Equal(impl.ClausesFor(p, goal), want) {
		t.Errorf("two results share memory: %v", second)
	}
}

func TestClausesStayAsTheyAre(t *testing.T) {
	kids := []impl.Term{variable(9), structure("f", variable(4)), number(7), number(8)}
	goal := impl.Term{Kind: impl.TermStruct, Name: "q", Kids: kids[:2]}
	body := []impl.Term{goal, structure("!"), number(5), number(6)}
	c := impl.Clause{Head: goal, Body: body[:2]}
	p := []impl.Clause{c, c, {Head: structure("last")}}
	impl.GoalValid(goal)
	impl.ClauseValid(c)
	impl.ClauseSame(c, p[1])
	impl.FormatClause(c)
	impl.RenumberClause(c)
	impl.ProgramValid(p[:2])
	impl.FormatProgram(p[:2])
	impl.ClausesFor(p[:2], goal)
	impl.UnknownGoals(p[:2])
	if got := formatAll(kids) + " " + formatAll(body); got != "J f(E) 7 8 q(J,f(E)) ! 5 6" {
		t.Errorf("an argument was changed: %s", got)
	}
	if got := impl.FormatProgram(p); got != "q(J,f(E)):-q(J,f(E)),!.\nq(J,f(E)):-q(J,f(E)),!.\nlast.\n" {
		t.Errorf("an argument was changed: %s", got)
	}
}
