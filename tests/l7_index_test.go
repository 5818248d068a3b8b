package tests

import (
	"slices"
	"strconv"
	"testing"

	"loop.example/prologserver/impl"
)

func TestFirstKey(t *testing.T) {
	cases := map[string]string{
		"p(1)": "1", "p(0)": "0", "p(-1)": "-1", "p(999)": "999", "p(-999)": "-999", "p(1,a)": "1", "p(-7,A,b,2)": "-7", "+(1,2)": "1", "-(-1)": "-1",
		"p(a)": "a/0", "p(abcdef)": "abcdef/0", "p(a,1)": "a/0", "p([])": "[]/0", "p(!)": "!/0", "p(-)": "-/0", "p(//)": "///0", "p(.)": "./0", "p(is)": "is/0",
		"p(f(1))": "f/1", "p(f(A))": "f/1", "p(f(a,b))": "f/2", "p(f(A,B,C))": "f/3", "p(f(1,2,3,4))": "f/4", "p(f)": "f/0", "p(p(p(p)))": "p/1", "p(g(f(1)),2)": "g/1", "p(-(1))": "-/1", "p(-(1,2))": "-/2", "p(//(1,2))": "///2", "p(is(A,1))": "is/2",
		"p([1])": "./2", "p([A|B])": "./2", "p([[]])": "./2", "p([a,b,c|D],1)": "./2", "p(.(1))": "./1", "p(.(1,2,3))": "./3",
		"p(A)": "", "p(Z)": "", "p(A,1)": "", "p(A,a,b,c)": "", "is(A,1)": "", "=(A,B)": "",
		"p": "", "abcdef": "", "!": "", "[]": "", "-": "", "1": "", "-5": "", "0": "", "A": "", "Z": "",
		// Terms that are no goals have a key, too.
		"[1,2]": "1", "[a]": "a/0", "[A]": "", "[f(A)|B]": "f/1", "=(a,b)": "a/0", "f(1)": "1", "!(a)": "a/0", "is(1)": "1",
	}
	for text, want := range cases {
		if got := impl.FirstKey(mustParse(t, text)); got != want {
			t.Errorf("FirstKey(%s) = %q, not %q", text, got, want)
		}
	}
}

func TestFirstKeyOfAllNumbersAndNames(t *testing.T) {
	check := func(first impl.Term, want string) {
		t.Helper()
		for _, x := range []impl.Term{structure("p", first), structure("f", first, variable(0)), structure("+", first, first, number(7))} {
			if got := impl.FirstKey(x); got != want {
				t.Errorf("FirstKey(%s) = %q, not %q", impl.FormatTerm(x), got, want)
			}
		}
	}
	for n := -impl.MaxInt; n <= impl.MaxInt; n++ {
		check(number(n), strconv.Itoa(n))
	}
	for n := range impl.MaxVar + 1 {
		check(variable(n), "")
	}
	for _, name := range allNames() {
		for arity := range impl.MaxArity + 1 {
			for _, part := range []impl.Term{variable(1), number(3), structure("a", number(4))} {
				check(structure(name, slices.Repeat([]impl.Term{part}, arity)...), name+"/"+strconv.Itoa(arity))
			}
		}
	}
}

func TestFirstKeyOfInvalidTerms(t *testing.T) {
	for name, bad := range invalidTerms() {
		for _, x := range []impl.Term{bad, structure("p", bad), structure("p", number(1), bad), structure("p", structure("a"), number(1), structure("f", bad))} {
			if got := impl.FirstKey(x); got != "" {
				t.Errorf("%s: FirstKey = %q", name, got)
			}
		}
	}
	for _, x := range []impl.Term{structure("P", number(1)), structure("", number(1)), structure("abcdefg", structure("a")), {Kind: impl.TermStruct, Name: "p", N: 1, Kids: []impl.Term{number(1)}}, {Kind: impl.TermInt, N: 1, Kids: []impl.Term{number(1)}}, {Kind: 4, Name: "p", Kids: []impl.Term{number(1)}}} {
		if got := impl.FirstKey(x); got != "" {
			t.Errorf("FirstKey(%v) = %q", x, got)
		}
	}
	for extra := range 3 {
		cases := map[string]impl.Term{
			"f/4": structure("p", bush(impl.MaxNodes-1+extra)),
			"1":   structure("p", number(1), bush(impl.MaxNodes-2+extra)),
			"f/1": structure("p", chain(impl.MaxDepth-1+extra)),
			"a/0": structure("p", structure("a"), chain(impl.MaxDepth-1+extra)),
		}
		for want, x := range cases {
			if extra > 0 {
				want = ""
			}
			if got := impl.FirstKey(x); got != want {
				t.Errorf("FirstKey of %d nodes or levels too many = %q, not %q", extra, got, want)
			}
		}
	}
}

// TestKeysFit has strings of which each is there once, keys and others.
func TestKeysFit(t *testing.T) {
	list := []string{"", "1", "-1", "0", "2", "999", "01", "+1", "1000", "a/0", "a/1", "f/1", "f/2", "./2", "[]/0", "///0", "///2", "-/1", "/", "a", "a/", "/0", "a/5", "A/0", "A/1", " ", "  ", "\n", "\x00", "\x00\x00", "\xff", "é", "1 ", " 1", "a/0\n", "1/0", "-1/0"}
	for i, a := range list {
		for j, b := range list {
			want := i == j || a == "" || b == ""
			if got := impl.KeysFit(a, b); got != want {
				t.Errorf("KeysFit(%q, %q) = %v", a, b, got)
			}
		}
	}
}

// checkCandidates checks the candidates for goals, which are given by their texts.
func checkCandidates(t *testing.T, p []impl.Clause, cases map[string][]int) {
	t.Helper()
	for text, want := range cases {
		if got := impl.Candidates(p, mustParse(t, text)); !slices.Equal(got, want) {
			t.Errorf("Candidates(%s) = %v, not %v, in\n%s", text, got, want, impl.FormatProgram(p))
		}
	}
}

func TestCandidates(t *testing.T) {
	p := mustProgram(t, "p(1,a).", "p(-1,b).", "p(A,c).", "p(a,d).", "p(f(A),e):-q.", "p(f(A,B),e).", "p([],g).", "p([A|B],h).", "p(B,B):-!.", "p(f,i).", "q.", "p.", "q:-fail.", "p:-q.", "r(1,2,3,4).", "r(1).", "s(f(1)).", "s(f(2)).", "s(1).", "s(2).")
	checkCandidates(t, p, map[string][]int{
		"p(1,A)": {0, 2, 8}, "p(1,zzz)": {0, 2, 8}, "p(-1,A)": {1, 2, 8}, "p(0,A)": {2, 8}, "p(11,A)": {2, 8}, "p(2,3)": {2, 8},
		"p(a,A)": {2, 3, 8}, "p(b,A)": {2, 8}, "p(f,A)": {2, 8, 9}, "p([],A)": {2, 6, 8}, "p(!,A)": {2, 8}, "p(-,1)": {2, 8},
		"p(f(1),A)": {2, 4, 8}, "p(f(A),A)": {2, 4, 8}, "p(f(1,2),A)": {2, 5, 8}, "p(f(1,2,3),A)": {2, 8}, "p(a(1),A)": {2, 8}, "p([1],A)": {2, 7, 8}, "p([A|B],C)": {2, 7, 8}, "p(.(1),A)": {2, 8}, "p(-(1),A)": {2, 8},
		"p(A,B)": {0, 1, 2, 3, 4, 5, 6, 7, 8, 9}, "p(A,A)": {0, 1, 2, 3, 4, 5, 6, 7, 8, 9}, "p(Z,a)": {0, 1, 2, 3, 4, 5, 6, 7, 8, 9}, "p(C,zzz)": {0, 1, 2, 3, 4, 5, 6, 7, 8, 9},
		// Without arguments, all clauses are candidates.
		"p": {11, 13}, "q": {10, 12}, "r": nil, "s": nil,
		// Only the first argument counts, and of it only the key.
		"r(1,a,b,c)": {14}, "r(2,2,3,4)": nil, "r(A,a,b,c)": {14}, "s(f(1))": {16, 17}, "s(f(3))": {16, 17}, "s(f(g(A)))": {16, 17}, "s(f)": nil, "s(1)": {18}, "s(3)": nil, "s(A)": {16, 17, 18, 19}, "r(1)": {15}, "r(A)": {15}, "r(a)": nil,
		// Clauses of other names or numbers of arguments are none.
		"p(1)": nil, "p(1,2,3)": nil, "p(A)": nil, "r(1,2)": nil, "nosuch": nil, "nosuch(1)": nil, "nosuch(A,B)": nil, "var": nil, "true(1)": nil,
		// Other goals, and terms that are no goals, have no clauses.
		"!": nil, "true": nil, "fail": nil, "=(1,1)": nil, "=(A,B)": nil, "is(A,1)": nil, "var(A)": nil, "int(1)": nil, "arg(1,A,B)": nil, "A": nil, "1": nil, "[]": nil, "[p]": nil, "+(1,2)": nil, "!(1)": nil, "is(1)": nil, "mod(1,2)": nil,
	})
}

// TestCandidatesWithoutOpenClauses has clauses whose first arguments are no variables, and others that all are.
func TestCandidatesWithoutOpenClauses(t *testing.T) {
	checkCandidates(t, mustProgram(t, "p(1).", "p(a).", "p(1):-fail.", "p(2)."), map[string][]int{
		"p(1)": {0, 2}, "p(a)": {1}, "p(2)": {3}, "p(3)": nil, "p(b)": nil, "p(a(1))": nil, "p(A)": {0, 1, 2, 3}, "p([A])": nil,
	})
	checkCandidates(t, mustProgram(t, "p(A).", "q(1).", "p(B):-fail."), map[string][]int{
		"p(1)": {0, 2}, "p(a)": {0, 2}, "p(A)": {0, 2}, "p([])": {0, 2}, "q(1)": {1}, "q(2)": nil, "q(A)": {1},
	})
	// A clause whose first argument is a variable comes before, between and behind others.
	checkCandidates(t, mustProgram(t, "p(A).", "p(1).", "p(2).", "p(B).", "p(1).", "p(C)."), map[string][]int{
		"p(1)": {0, 1, 3, 4, 5}, "p(2)": {0, 2, 3, 5}, "p(3)": {0, 3, 5}, "p(A)": {0, 1, 2, 3, 4, 5},
	})
	// The same key belongs to each predicate alone.
	checkCandidates(t, mustProgram(t, "p(1).", "q(1).", "p(1,A).", "p(A,1).", "q(A)."), map[string][]int{
		"p(1)": {0}, "q(1)": {1, 4}, "p(1,1)": {2, 3}, "p(2,1)": {3}, "p(2)": nil, "q(2)": {4},
	})
}

func TestCandidatesOfInvalidArguments(t *testing.T) {
	fine := mustProgram(t, "p(1).", "p(A).", "p.")
	goals := mustParseAll(t, "p(1)", "p(A)", "p")
	for name, bad := range invalidTerms() {
		for _, goal := range []impl.Term{bad, structure("p", bad), structure("p", number(1), bad)} {
			if got := impl.Candidates(append(fine, clauseOf(t, "p(1,A)")), goal); len(got) > 0 {
				t.Errorf("%s: Candidates = %v", name, got)
			}
		}
	}
	for name, bad := range invalidClauses() {
		for _, p := range [][]impl.Clause{{bad}, append(slices.Clone(fine), bad), append([]impl.Clause{bad}, fine...)} {
			for _, goal := range goals {
				if got := impl.Candidates(p, goal); len(got) > 0 {
					t.Errorf("%s: Candidates(%s) = %v", name, impl.FormatTerm(goal), got)
				}
			}
		}
	}
	for clauses := impl.MaxClauses - 1; clauses < impl.MaxClauses+3; clauses++ {
		for _, goal := range goals[:2] {
			want := clauses
			if clauses > impl.MaxClauses {
				want = 0
			}
			if got := impl.Candidates(slices.Repeat(fine[:1], clauses), goal); len(got) != want {
				t.Errorf("Candidates(%s) of %d clauses = %v", impl.FormatTerm(goal), clauses, got)
			}
		}
	}
	for _, goal := range goals {
		if got := impl.Candidates(nil, goal); len(got) > 0 {
			t.Errorf("Candidates(%s) in the empty program = %v", impl.FormatTerm(goal), got)
		}
	}
}

// TestCandidatesByTheHeads compares Candidates with a look at each head. What is left out cannot be unified.
func TestCandidatesByTheHeads(t *testing.T) {
	s := source{state: 41}
	some, fewer := 0, 0
	for range 3000 {
		p := s.knownProgram()
		goals := []impl.Term{s.knownGoal(), s.knownGoal(), s.bodyGoal()}
		for _, c := range p {
			goals = append(append(goals, c.Head), c.Body...)
		}
		for _, goal := range goals {
			all, got := impl.ClausesFor(p, goal), impl.Candidates(p, goal)
			if want := slowClauses(p, goal, true); !slices.Equal(got, want) {
				t.Fatalf("Candidates(%s) = %v, not %v, in\n%s", impl.WriteTerm(goal), got, want, impl.FormatProgram(p))
			}
			for _, i := range all {
				fits := impl.KeysFit(impl.FirstKey(goal), impl.FirstKey(p[i].Head))
				u := &slowUnifier{}
				if slices.Contains(got, i) != fits || !fits && u.unify(moved(p[i].Head, 100), goal) {
					t.Fatalf("Candidates(%s) = %v, for the clause %s", impl.WriteTerm(goal), got, impl.FormatClause(p[i]))
				}
			}
			if len(got) < len(all) {
				fewer++
			}
			some += min(len(got), 1)
		}
	}
	if some < 20000 || fewer < 10000 {
		t.Errorf("only %d goals have candidates, and %d have fewer than clauses", some, fewer)
	}
}

func TestDeterminate(t *testing.T) {
	p := mustProgram(t, "len([],0).", "len([A|B],C):-len(B,D),C is D+1.", "f(1,A).", "f(-1,b).", "f(A,c).", "f(1).", "f(2).", "g.", "g(A).", "g(A,B).", "h.", "h:-g.", "k(1,a,A,B).", "k(f(1),a,A,B).", "k(f(1,2),a,A,B).", "k(f,a,A,B).", "m(f(1)).", "m(f(2)).", "n(A).", "n(1).")
	cases := []struct {
		name  string
		arity int
		want  bool
	}{
		{"len", 2, true}, {"f", 2, false}, {"f", 1, true}, {"g", 0, true}, {"g", 1, true}, {"g", 2, true}, {"h", 0, false}, {"k", 4, true}, {"m", 1, false}, {"n", 1, false},
		// Without a clause, there are no two.
		{"len", 0, true}, {"len", 1, true}, {"len", 3, true}, {"len", 4, true}, {"f", 0, true}, {"h", 1, true}, {"k", 3, true}, {"no", 0, true}, {"no", 4, true}, {"", 0, true}, {"", 2, true}, {"=", 2, true}, {"!", 0, true}, {"is", 2, true}, {"true", 0, true}, {"A", 0, true}, {"\xff\n", 1, true}, {"abcdefgh", 4, true},
	}
	for _, c := range cases {
		if got := impl.Determinate(p, c.name, c.arity); got != c.want {
			t.Errorf("Determinate(%q, %d) = %v", c.name, c.arity, got)
		}
	}
	for _, name := range []string{"len", "f", "g", "h", "k", "no", ""} {
		for _, arity := range []int{-1, -2, -1 << 63, impl.MaxArity + 1, impl.MaxArity + 2, 1<<63 - 1} {
			if impl.Determinate(p, name, arity) || impl.Determinate(nil, name, arity) {
				t.Errorf("Determinate(%q, %d) = true", name, arity)
			}
		}
	}
}

// TestDeterminateOfTwoClauses has two clauses with some first arguments, and others between and beside them.
func TestDeterminateOfTwoClauses(t *testing.T) {
	firsts := mustParseAll(t, "1", "2", "-1", "a", "b", "[]", "f(1)", "f(A,1)", "f", "[1]", ".(1)", "A", "B")
	for arity := 1; arity <= impl.MaxArity; arity++ {
		for i, a := range firsts {
			for j, b := range firsts {
				head := func(first impl.Term) impl.Clause {
					rest := slices.Repeat([]impl.Term{variable(3)}, arity-1)
					return impl.Clause{Head: structure("p", append([]impl.Term{first}, rest...)...)}
				}
				others := mustProgram(t, "p.", "p:-p.", "q(A).", "q(B).")
				other := impl.Clause{Head: structure("p", slices.Repeat([]impl.Term{variable(0)}, arity%impl.MaxArity+1)...)}
				p := append([]impl.Clause{other, head(a), other}, append(others, head(b), other)...)
				want := i != j && a.Kind != impl.TermVar && b.Kind != impl.TermVar
				if got := impl.Determinate(p, "p", arity); got != want {
					t.Errorf("Determinate of %s and %s with %d arguments = %v", impl.FormatTerm(a), impl.FormatTerm(b), arity, got)
				}
				if !impl.Determinate(p[:6], "p", arity) || impl.Determinate(p, "q", 1) || impl.Determinate(p, "p", 0) {
					t.Errorf("Determinate with %d arguments of one clause, or of other clauses, is wrong", arity)
				}
			}
		}
	}
}

func TestDeterminateOfInvalidPrograms(t *testing.T) {
	fine := clauseOf(t, "p(1)")
	for name, bad := range invalidClauses() {
		for _, p := range [][]impl.Clause{{bad}, {bad, fine}, {fine, bad}} {
			for _, pred := range []string{"p", "q", ""} {
				for arity := range impl.MaxArity + 1 {
					if impl.Determinate(p, pred, arity) {
						t.Errorf("%s: Determinate(%q, %d) = true", name, pred, arity)
					}
				}
			}
		}
	}
	var p []impl.Clause
	for n := range impl.MaxClauses + 1 {
		if !impl.Determinate(p, "p", 1) {
			t.Errorf("Determinate of %d clauses = false", n)
		}
		p = append(p, impl.Clause{Head: structure("p", number(n))})
	}
	if impl.Determinate(p, "p", 1) || impl.Determinate(p, "q", 1) {
		t.Error("Determinate of too many clauses = true")
	}
}

// TestDeterminateGoals compares Determinate with the keys of all pairs of heads, and with goals of all keys.
func TestDeterminateGoals(t *testing.T) {
	s := source{state: 42}
	met := map[bool]int{}
	for range 3000 {
		p := s.knownProgram()
		p = p[:s.below(len(p)+1)]
		for _, pred := range []struct {
			name  string
			arity int
		}{{"t", 0}, {"p", 1}, {"q", 1}, {"r", 2}, {"r", 1}} {
			var heads []impl.Term
			for _, c := range p {
				if c.Head.Name == pred.name && len(c.Head.Kids) == pred.arity {
					heads = append(heads, c.Head)
				}
			}
			want := true
			for i, a := range heads {
				for _, b := range heads[:i] {
					want = want && pred.arity > 0 && !mayBeEqual(a.Kids[0], b.Kids[0])
				}
			}
			if got := impl.Determinate(p, pred.name, pred.arity); got != want {
				t.Fatalf("Determinate(%q, %d) = %v, in\n%s", pred.name, pred.arity, got, impl.FormatProgram(p))
			}
			if len(heads) > 1 {
				met[want]++
			}
			for range 5 {
				first := s.knownTerm(1)
				goal := structure(pred.name, slices.Repeat([]impl.Term{first}, pred.arity)...)
				if want && first.Kind != impl.TermVar && len(impl.Candidates(p, goal)) > 1 {
					t.Fatalf("Candidates(%s) = %v, but Determinate holds, in\n%s", impl.WriteTerm(goal), impl.Candidates(p, goal), impl.FormatProgram(p))
				}
			}
		}
	}
	if met[true] < 200 || met[false] < 200 {
		t.Errorf("Determinate holds for only %d of several clauses, and does not for %d", met[true], met[false])
	}
}

func TestCandidatesShareNoMemory(t *testing.T) {
	p := mustProgram(t, "p(1).", "p(2).", "p(A).", "q.", "p(1).", "p(1).", "p(1).", "q.", "q.", "q.", "q.")
	for text, want := range map[string][]int{"p(1)": {0, 2, 4, 5, 6}, "p(A)": {0, 1, 2, 4, 5, 6}, "p(3)": {2}, "q": {3, 7, 8, 9, 10}} {
		goal := mustParse(t, text)
		first, second := impl.Candidates(p, goal), impl.Candidates(p, goal)
		first = first[:cap(first)]
		for i := range first {
			first[i] = 99
		}
		if again := impl.Candidates(p, goal); !slices.Equal(second, want) || !slices.Equal(again, want) {
			t.Errorf("results of Candidates(%s) share memory: %v and %v", text, second, again)
		}
	}
}
