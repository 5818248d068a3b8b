package tests

import (
	"fmt"
	"math"
	"slices"
	"strings"
	"testing"

	"loop.example/prologserver/impl"
)

// checkUnread checks that ReadClause finds no clause.
func checkUnread(t *testing.T, about string, code []impl.Instr, name string, arity int) {
	t.Helper()
	if c, ok := impl.ReadClause(code, name, arity); ok || !isZero(c) {
		t.Errorf("%s: ReadClause for %s/%d = %s, %v", about, name, arity, impl.FormatClause(c), ok)
	}
}

// TestReadClauseNumbersVariables has clauses whose variables have other numbers in the clause that is read.
func TestReadClauseNumbersVariables(t *testing.T) {
	for text, want := range map[string]string{
		"p(C).": "p(A).", "p(Z,A,Z).": "p(A,B,A).", "p(f(D),C):-q(C,B),r(A,D).": "p(f(A),B):-q(B,C),r(D,A).", "p(f(g(C),B),k(D)):-q(D,A,B).": "p(f(g(A),B),k(C)):-q(C,D,B).", "p:-q(f(Z,g(Y)),Y),r(X,Z).": "p:-q(f(A,g(B)),B),r(C,A).", "p(E):-A is B+C,D=E,!.": "p(A):-B is C+D,E=A,!.",
		"p(Z,Y,f(X,W),Z):-q(V,U,f(T),S),f(R,Q)=f(P,O),q(N,M,L,K),q(J,I,H,G),q(F,E,D,C),q(B,A,Z,X).": "p(A,B,f(C,D),A):-q(E,F,f(G),H),f(I,J)=f(K,L),q(M,N,O,P),q(Q,R,S,T),q(U,V,W,X),q(Y,Z,A,C).",
	} {
		c := mustClause(t, text)
		code, _ := impl.CompileClause(c)
		if got, ok := impl.ReadClause(code, "p", len(c.Head.Kids)); !ok || impl.FormatClause(got) != want {
			t.Errorf("ReadClause of the code of %s = %s, %v", text, impl.FormatClause(got), ok)
		}
	}
}

// TestReadClauseForOtherHeads has code that is that of clauses with different heads, too.
func TestReadClauseForOtherHeads(t *testing.T) {
	for _, row := range []struct {
		code  string
		heads []string
	}{
		{"end", []string{"p.", "p(A).", "p(A,B).", "p(A,B,C).", "p(A,B,C,D)."}}, {"call 0 q; end", []string{"p:-q.", "p(A):-q.", "p(A,B):-q.", "p(A,B,C):-q.", "p(A,B,C,D):-q."}},
		{"getint 1 0; end", []string{"", "p(1).", "p(1,A).", "p(1,A,B).", "p(1,A,B,C)."}}, {"getval 0 1; end", []string{"", "", "p(A,A).", "p(A,A,B).", "p(A,A,B,C)."}}, {"getstr 1 2 f; unival 0; end", []string{"", "", "", "p(A,B,f(A)).", "p(A,B,f(A),C)."}}, {"getint -1 3; end", []string{"", "", "", "", "p(A,B,C,-1)."}},
		{"putval 1 0; call 1 q; end", []string{"", "", "p(A,B):-q(B).", "p(A,B,C):-q(B).", "p(A,B,C,D):-q(B)."}}, {"putvar 4 0; call 1 q; cut; putval 4 0; built 1 var; end", []string{"p:-q(A),!,var(A).", "p(A):-q(B),!,var(B)."}},
	} {
		code := codeOf(t, linesOf(row.code))
		for arity, want := range row.heads {
			if want == "" {
				checkUnread(t, row.code, code, "p", arity)
				continue
			}
			got, ok := impl.ReadClause(code, "p", arity)
			if !ok || impl.FormatClause(got) != want {
				t.Errorf("ReadClause(%q, p, %d) = %s, %v, not %s", row.code, arity, impl.FormatClause(got), ok, want)
			}
		}
		for _, arity := range []int{-1, -2, impl.MaxArity + 1, impl.MaxArity + 2, 1000, math.MaxInt, math.MinInt} {
			checkUnread(t, row.code, code, "p", arity)
		}
	}
}

// TestReadClauseForAllNames has names that heads can have with some numbers of arguments, and others.
func TestReadClauseForAllNames(t *testing.T) {
	code := codeOf(t, "end\n")
	for _, name := range append(allNames(), "", "P", "abcdefg", "p1", "p ", " p", "p\n", "é", "\xff", strings.Repeat("a", 100000)) {
		for arity := range impl.MaxArity + 1 {
			want := impl.Clause{Head: structure(name)}
			for i := range arity {
				want.Head.Kids = append(want.Head.Kids, variable(i))
			}
			if !impl.ClauseValid(want) {
				checkUnread(t, "end", code, name, arity)
				continue
			}
			if got, ok := impl.ReadClause(code, name, arity); !ok || !impl.ClauseSame(got, want) {
				t.Errorf("ReadClause for %s/%d = %s, %v", name, arity, impl.FormatClause(got), ok)
			}
		}
	}
}

// TestCodeOfNoClause has code whose instructions all have a text, for a head with two arguments.
func TestCodeOfNoClause(t *testing.T) {
	for _, code := range []string{
		// The end is missing, not last, or there twice.
		"getint 1 0", "call 0 q", "cut", "end; end", "end; call 0 q", "call 0 q; end; end", "call 0 q; end; call 0 q; end", "end; cut; end",
		// Arguments of the head in another order, again, or that are there in another way.
		"getint 1 1; getint 1 0; end", "getint 1 0; getint 1 0; end", "getint 1 0; getint 2 0; end", "getval 1 0; end", "getval 0 0; end", "getval 1 1; end", "getval 0 1; getval 0 1; end", "getval 0 1; getint 1 0; end", "getint 1 0; getval 0 1; end", "getint 1 2; end", "getval 2 1; end", "getval 4 1; end", "getval 0 2; end", "getint 1 4; end",
		"getstr 0 0 a; getint 1 1; end", "getstr 0 0 a; getval 0 1; end", "getstr 0 1 a; getstr 0 0 a; end", "getstr 0 0 a; getstr 0 0 a; end", "getstr 0 0 a; getstr 0 0 b; end", "getstr 0 2 a; end", "getstr 0 4 a; end", "getstr 0 999 a; end",
		// Slots that are not the next one, or that are used.
		"getstr 1 0 f; univar 5; end", "getstr 1 0 f; univar 3; end", "getstr 1 0 f; univar 1; end", "getstr 1 0 f; univar 0; end", "getstr 1 0 f; univar -1; end", "getstr 1 0 f; univar 999; end", "getstr 2 0 f; univar 4; univar 4; end", "getstr 2 0 f; univar 5; univar 4; end", "getstr 2 0 f; univar 4; univar 6; end", "getstr 1 0 f; univar 4; getstr 1 1 f; univar 4; end", "getstr 1 0 f; univar 4; getstr 1 1 f; univar 6; end",
		"getstr 1 0 f; unival 4; end", "getstr 1 0 f; unival 2; end", "getstr 1 0 f; unival -1; end", "getint 1 0; getstr 1 1 f; unival 0; end", "getval 0 1; getstr 1 1 f; univar 4; end",
		// A structure in itself.
		"getstr 1 0 f; unival 0; end", "getstr 1 0 f; univar 4; getstr 1 4 f; unival 4; end", "getstr 1 0 f; univar 4; getstr 1 4 f; unival 0; end", "getstr 2 0 f; univar 4; univar 5; getstr 1 4 g; unival 5; getstr 1 5 g; unival 4; end", "getstr 1 0 f; unival 1; getstr 1 1 g; unival 0; end", "setstr 1 4 f; unival 4; putval 4 0; call 1 q; end", "setstr 1 0 f; unival 0; end",
		// Structures that are left in another order, not at once, or shared.
		"getstr 2 0 f; univar 4; univar 5; getstr 0 5 b; getstr 0 4 a; end", "getstr 1 0 f; univar 4; getstr 0 4 a; getstr 1 1 g; univar 5; getstr 0 5 b; end", "getstr 1 1 f; univar 4; getstr 1 0 f; univar 5; end", "getstr 2 0 f; univar 4; unival 4; getstr 0 4 a; end", "getstr 1 0 f; univar 4; getstr 1 1 g; unival 4; getstr 0 4 a; end", "getstr 1 0 f; univar 4; getint 1 4; end", "getstr 2 0 f; univar 4; univar 5; getval 4 5; end", "getstr 1 0 f; getstr 0 4 a; end", "getstr 1 0 f; getint 1 1; end",
		// Too few or too many instructions describe a structure, or other ones.
		"getstr 1 0 f; end", "getstr 0 0 f; univar 4; end", "getstr 1 0 f; univar 4; univar 5; end", "getstr 2 0 f; univar 4; end", "getstr -1 0 f; end", "getstr 5 0 f; uniint 1; uniint 1; uniint 1; uniint 1; uniint 1; end", "getstr 999 0 f; uniint 1; end", "univar 4; end", "unival 0; end", "uniint 1; end", "getstr 1 0 f; putvar 4 0; end", "getstr 1 0 f; cut; end", "setstr 1 4 f; end", "setstr 1 4 f; putint 1 0; call 1 q; end", "setstr 0 4 f; uniint 1; putval 4 0; call 1 q; end", "setstr -1 4 f; putval 4 0; call 1 q; end", "setstr 5 4 f; uniint 1; uniint 1; uniint 1; uniint 1; uniint 1; putval 4 0; call 1 q; end",
		// Code of heads behind that of goals.
		"call 0 q; getint 1 0; end", "cut; getval 0 1; end", "call 0 q; getstr 0 0 a; end", "putint 1 0; getint 1 1; call 1 q; end", "setstr 0 4 a; getstr 0 0 a; putval 4 0; call 1 q; end",
		// Arguments of goals in another order, again, too few or too many.
		"putint 1 1; putint 1 0; call 2 q; end", "putint 1 1; call 1 q; end", "putint 1 0; putint 1 0; call 1 q; end", "putint 1 0; putint 1 0; call 2 q; end", "putint 1 0; call 2 q; end", "putint 1 0; call 0 q; end", "call 1 q; end", "call -1 q; end", "putint 1 0; putint 1 2; call 2 q; end", "putint 1 0; putint 1 1; putint 1 2; putint 1 3; putint 1 4; call 5 q; end", "putint 1 0; end", "putint 1 0; cut; end", "putint 1 0; cut; call 1 q; end", "putint 1 999; call 1 q; end", "putint 1 0; call 0 q; putint 1 0; call 1 q; end",
		// Variables of goals that have a slot already, or none, or another one.
		"putvar 0 0; call 1 q; end", "putvar 5 0; call 1 q; end", "putvar 3 0; call 1 q; end", "putvar -1 0; call 1 q; end", "putvar 4 0; putvar 4 1; call 2 q; end", "putvar 4 0; putvar 6 1; call 2 q; end", "putval 4 0; call 1 q; end", "putval 2 0; call 1 q; end", "putval -4 0; call 1 q; end", "getint 1 0; putval 0 0; call 1 q; end", "getval 0 1; putval 1 0; call 1 q; end", "getstr 0 0 a; putval 0 0; call 1 q; end", "putval 4 0; putvar 4 1; call 2 q; end",
		// Structures of goals that are built too early, too late, in another order, not at all, twice, or are used twice.
		"setstr 0 4 a; end", "setstr 0 4 a; call 0 q; end", "setstr 0 5 a; putval 5 0; call 1 q; end", "setstr 0 3 a; putval 3 0; call 1 q; end", "setstr 0 0 a; putval 0 0; call 1 q; end", "putval 4 0; setstr 0 4 a; call 1 q; end", "putint 1 1; setstr 0 4 a; putval 4 0; call 2 q; end", "setstr 0 4 a; putint 1 0; putval 4 1; call 2 q; end", "setstr 0 4 a; putval 4 0; putval 4 1; call 2 q; end", "setstr 0 4 a; putval 4 0; call 1 q; putval 4 0; call 1 q; end", "setstr 0 4 a; setstr 0 5 b; putval 5 0; putval 4 1; call 2 q; end", "setstr 0 4 a; setstr 0 5 b; putval 4 0; putval 5 1; call 2 q; end", "setstr 0 4 a; setstr 0 4 a; putval 4 0; call 1 q; end", "setstr 0 4 a; setstr 0 4 b; putval 4 0; call 1 q; end", "putvar 4 0; setstr 0 4 a; call 1 q; end",
		"setstr 1 4 f; unival 5; setstr 0 5 a; putval 4 0; call 1 q; end", "setstr 0 4 a; setstr 2 5 f; unival 4; unival 4; putval 5 0; call 1 q; end", "setstr 0 4 b; setstr 0 5 a; setstr 2 6 f; unival 5; unival 4; putval 6 0; call 1 q; end", "setstr 1 4 f; univar 5; setstr 1 6 g; univar 5; putval 4 0; putval 6 1; call 2 q; end", "setstr 1 5 f; univar 4; putval 5 0; call 1 q; end", "setstr 1 4 f; unival 5; putval 4 0; call 1 q; end", "setstr 1 4 f; unival 0; putval 4 0; putvar 0 1; call 2 q; end",
		// Goals with names that are none, or that are done in another way.
		"call 0 !; end", "built 0 !; end", "call 0 true; end", "call 0 fail; end", "putint 1 0; call 1 var; end", "putint 1 0; putint 1 1; call 2 =; end", "putint 1 0; putint 1 1; call 2 is; end", "built 0 q; end", "putint 1 0; built 1 q; end", "putint 1 0; built 1 true; end", "built 0 var; end", "putint 1 0; putint 1 1; call 2 +; end", "putint 1 0; putint 1 1; built 2 +; end", "call 0 is; end", "call 0 []; end", "call 0 +; end", "putint 1 0; call 1 !; end", "call 0 mod; end", "putint 1 0; call 1 =; end", "built 2 =; end",
		// Too many goals.
		strings.Repeat("call 0 q; ", impl.MaxGoals+1) + "end", strings.Repeat("cut; ", impl.MaxGoals+1) + "end", strings.Repeat("built 0 true; ", 50) + "end",
	} {
		checkUnread(t, code, codeOf(t, linesOf(code)), "p", 2)
	}
	for arity := -1; arity <= impl.MaxArity+1; arity++ {
		for _, name := range append(allNames(), "p", "P", "", "abcdefg") {
			checkUnread(t, "no code", nil, name, arity)
			checkUnread(t, "empty code", []impl.Instr{}, name, arity)
		}
	}
}

// TestCodeWithFieldsPastTheLimits has instructions without a text, alone and inside of the code of a clause.
func TestCodeWithFieldsPastTheLimits(t *testing.T) {
	code := mustCompile(t, mustClause(t, "p(1,f(A)):-q(A,2,g(B)),!,A is B."))
	for op := -1; op <= impl.OpProceed+1; op++ {
		for _, n := range []int{0, 1000, -1000, -1, math.MaxInt, math.MinInt, math.MaxInt - 1, 1 << 32, 1 << 62} {
			for _, name := range []string{"", "f", "Q", "abcdefg"} {
				for _, x := range []impl.Instr{{Op: op, A: n, Name: name}, {Op: op, B: n, Name: name}, {Op: op, A: n, B: n, Name: name}} {
					if impl.FormatInstr(x) != "" {
						continue
					}
					about := fmt.Sprint("with ", x)
					checkUnread(t, about, []impl.Instr{x}, "p", 2)
					checkUnread(t, about, []impl.Instr{x, {Op: impl.OpProceed}}, "p", 2)
					for place := range code {
						checkUnread(t, about, slices.Insert(slices.Clone(code), place, x), "p", 2)
						checkUnread(t, about, slices.Replace(slices.Clone(code), place, place+1, x), "p", 2)
					}
				}
			}
		}
	}
	for place, x := range code {
		for _, changed := range []impl.Instr{{Op: x.Op, A: x.A + 1000, B: x.B, Name: x.Name}, {Op: x.Op, A: x.A, B: x.B + 1000, Name: x.Name}, {Op: x.Op, A: x.A, B: x.B - 4, Name: x.Name}, {Op: x.Op, A: x.A, B: x.B, Name: x.Name + "A"}, {Op: x.Op + 14, A: x.A, B: x.B, Name: x.Name}} {
			checkUnread(t, fmt.Sprint("with ", changed), slices.Replace(slices.Clone(code), place, place+1, changed), "p", 2)
		}
	}
	for _, name := range []string{"Q", "abcdefg", "", "q ", strings.Repeat("q", 100000)} {
		checkUnread(t, "a goal without a name", []impl.Instr{{Op: impl.OpCall, Name: name}, {Op: impl.OpProceed}}, "p", 0)
	}
}

// TestCodeOfClausesPastTheLimits has code that is made as that of clauses, but of some that are not valid.
func TestCodeOfClausesPastTheLimits(t *testing.T) {
	wide := structure("f", number(1), number(1), number(1), number(1), number(1))
	for extra := range 4 {
		cases := map[string]impl.Clause{
			"nodes of the head":       {Head: bush(impl.MaxNodes + extra)},
			"depth of the head":       {Head: chain(impl.MaxDepth + extra)},
			"nodes of a goal":         {Head: structure("p"), Body: []impl.Term{bush(impl.MaxNodes + extra)}},
			"depth of the last goal":  {Head: structure("p"), Body: []impl.Term{structure("q"), chain(impl.MaxDepth + extra)}},
			"goals":                   repeated(impl.MaxGoals+extra, structure("q")),
			"arguments of a goal":     repeated(1, structure("q", slices.Repeat([]impl.Term{number(1)}, impl.MaxArity+extra)...)),
			"arguments of the head":   {Head: structure("p", structure("f", slices.Repeat([]impl.Term{number(1)}, impl.MaxArity+extra)...))},
			"arguments that are made": repeated(1, structure("q", structure("f", slices.Repeat([]impl.Term{variable(0)}, impl.MaxArity+extra)...))),
			"variables of goals":      repeated(1, structure("q", several(impl.MaxVar+1+extra))),
			"variables of the head":   {Head: structure("p", several(impl.MaxVar+1+extra))},
		}
		for about, c := range cases {
			code := codeOf(t, slowCode(c))
			if extra > 0 {
				checkUnread(t, about, code, c.Head.Name, len(c.Head.Kids))
				continue
			}
			if got, ok := impl.ReadClause(code, c.Head.Name, len(c.Head.Kids)); !ok || !impl.ClauseSame(got, c) {
				t.Errorf("%s at the limit: ReadClause = %s, %v", about, impl.FormatClause(got), ok)
			}
		}
	}
	for about, c := range map[string]impl.Clause{"five arguments": {Head: wide}, "a goal with five arguments": repeated(1, wide), "a number as a goal": repeated(1, structure("+", number(1), number(2)))} {
		checkUnread(t, about, codeOf(t, slowCode(c)), c.Head.Name, len(c.Head.Kids))
	}
}

// TestCodeThatGrows has code with terms that are too large to be visited, chains of variables, and too many instructions.
func TestCodeThatGrows(t *testing.T) {
	inTime(t, func() {
		// Each structure has the one before it four times.
		bushes := []impl.Instr{{Op: impl.OpSetStruct, A: 0, B: 4, Name: "a"}}
		for slot := 5; slot < 300; slot++ {
			bushes = append(bushes, impl.Instr{Op: impl.OpSetStruct, A: 4, B: slot, Name: "f"})
			bushes = append(bushes, slices.Repeat([]impl.Instr{{Op: impl.OpUniVal, A: slot - 1}}, 4)...)
		}
		heads := []impl.Instr{{Op: impl.OpGetStruct, A: 4, B: 0, Name: "f"}}
		for slot := 4; slot < 300; slot++ {
			heads = append(heads, impl.Instr{Op: impl.OpUniVar, A: slot})
			heads = append(heads, slices.Repeat([]impl.Instr{{Op: impl.OpUniVal, A: slot}}, 3)...)
			heads = append(heads, impl.Instr{Op: impl.OpGetStruct, A: 4, B: slot, Name: "f"})
		}
		var chained []impl.Instr
		for slot := range 999 {
			chained = append(chained, impl.Instr{Op: impl.OpGetVal, A: slot + 1, B: slot}, impl.Instr{Op: impl.OpGetVal, A: 0, B: slot})
		}
		end := []impl.Instr{{Op: impl.OpPutVal, A: 30}, {Op: impl.OpCall, A: 1, Name: "q"}, {Op: impl.OpProceed}}
		for about, code := range map[string][]impl.Instr{"bushes": bushes, "heads": heads, "chains": chained, "cuts": slices.Repeat([]impl.Instr{{Op: impl.OpCut}}, 1999), "arguments": slices.Repeat([]impl.Instr{{Op: impl.OpPutInt}}, 1997)} {
			for arity := range impl.MaxArity + 1 {
				checkUnread(t, about, append(slices.Clone(code), end[len(end)-1]), "p", arity)
				checkUnread(t, about, append(slices.Clone(code), end...), "p", arity)
			}
		}
		for _, length := range []int{impl.MaxCode - 1, impl.MaxCode, impl.MaxCode + 1, 300000} {
			for _, x := range []impl.Instr{{Op: impl.OpProceed}, {Op: impl.OpGetVal, A: 1}, {Op: impl.OpGetStruct, A: 1, Name: "f"}, {Op: impl.OpGetStruct, Name: "f"}, {Op: impl.OpCall, Name: "q"}, {Op: impl.OpPutVar, A: 4}} {
				code := slices.Repeat([]impl.Instr{x}, length)
				checkUnread(t, "long code", code, "p", 2)
				code[length-1] = impl.Instr{Op: impl.OpProceed}
				checkUnread(t, "long code", code, "p", 2)
			}
		}
	})
}

// smallCost returns the number of instructions of an argument inside of a structure or of a goal.
func smallCost(x impl.Term) int {
	cost := 1
	if x.Kind == impl.TermStruct {
		cost++
		for _, kid := range x.Kids {
			cost += smallCost(kid)
		}
	}
	return cost
}

// smallClauses calls yield with all clauses with code of at most this many instructions, with few names.
func smallClauses(arity int, most int, yield func(c impl.Clause)) {
	terms := []impl.Term{variable(0), variable(1), variable(2), variable(3), number(1), structure("a")}
	for i := 0; i < 6*3; i++ {
		terms = append(terms, structure("f", terms[i]))
	}
	goals := []impl.Term{structure("q"), structure("!")}
	for _, x := range terms {
		goals = append(goals, structure("q", x), structure("var", x))
		for _, y := range terms {
			goals = append(goals, structure("q", x, y))
		}
	}
	heads := []impl.Term{structure("p")}
	for range arity {
		var longer []impl.Term
		for _, head := range heads {
			for _, x := range terms {
				longer = append(longer, structure("p", append(slices.Clone(head.Kids), x)...))
			}
		}
		heads = longer
	}
	var add func(c impl.Clause, left int)
	add = func(c impl.Clause, left int) {
		yield(c)
		for _, goal := range goals {
			if cost := smallCost(goal) - 1; goal.Name != "!" && cost <= left || goal.Name == "!" && left > 0 {
				add(impl.Clause{Head: c.Head, Body: append(slices.Clone(c.Body), goal)}, left-max(cost, 1))
			}
		}
	}
	for _, head := range heads {
		if used := strings.Count(slowCode(impl.Clause{Head: head}), "\n"); used <= most {
			add(impl.Clause{Head: head}, most-used)
		}
	}
}

// TestAllSmallCode reads all code of up to five instructions of some kinds, and finds exactly the clauses there are.
func TestAllSmallCode(t *testing.T) {
	const most = 5
	lines := strings.Split("getval 0 1,getval 1 0,getint 1 0,getint 1 1,getstr 0 0 a,getstr 1 0 f,getstr 1 1 f,getstr 0 4 a,getstr 1 4 f,univar 4,univar 5,unival 0,unival 4,uniint 1,setstr 0 4 a,setstr 1 4 f,setstr 1 5 f,putvar 4 0,putvar 5 0,putval 0 0,putval 4 0,putval 5 0,putval 4 1,putint 1 0,call 0 q,call 1 q,call 2 q,built 1 var,cut,end", ",")
	var all []impl.Instr
	for i, line := range lines {
		lines[i] = line + "\n"
		all = append(all, codeOf(t, lines[i])...)
	}
	read := 0
	for arity := range 3 {
		known := map[string]impl.Clause{}
		smallClauses(arity, most, func(c impl.Clause) { known[slowCode(c)] = c })
		check := func(text string, code []impl.Instr) {
			got, ok := impl.ReadClause(code, "p", arity)
			want, exists := known[text]
			one, _ := impl.RenumberClause(want)
			if ok != exists || ok && !impl.ClauseSame(got, one) || !ok && !isZero(got) {
				t.Fatalf("ReadClause(%q) for %d arguments = %s, %v, not %s", text, arity, impl.FormatClause(got), ok, impl.FormatClause(want))
			}
			if ok {
				read++
			}
		}
		var add func(text string, code []impl.Instr)
		add = func(text string, code []impl.Instr) {
			if len(code) < most-1 {
				check(text, code)
			}
			check(text+"end\n", append(code, impl.Instr{Op: impl.OpProceed}))
			if len(code) == most-1 {
				return
			}
			for i, x := range all {
				add(text+lines[i], append(code, x))
			}
		}
		add("", make([]impl.Instr, 0, most))
	}
	if read < 500 {
		t.Errorf("only %d clauses were read", read)
	}
}

// TestChangedCode changes the code of random clauses. What is read then must have the changed code.
func TestChangedCode(t *testing.T) {
	s := source{state: 53}
	other, none := 0, 0
	for range 6000 {
		c := s.knownClause()
		code, arity := mustCompile(t, c), len(c.Head.Kids)
		check := func(changed []impl.Instr) {
			got, ok := impl.ReadClause(changed, c.Head.Name, arity)
			if !ok {
				none++
				if !isZero(got) {
					t.Fatalf("ReadClause = %v, false", got)
				}
				return
			}
			one, _ := impl.RenumberClause(got)
			if got.Head.Name != c.Head.Name || len(got.Head.Kids) != arity || !impl.ClauseSame(got, one) || slowCode(got) != impl.FormatCode(changed) {
				t.Fatalf("ReadClause of %q = %s", impl.FormatCode(changed), impl.FormatClause(got))
			}
			if !slices.Equal(changed, code) {
				other++
			}
		}
		for place := range code {
			check(slices.Delete(slices.Clone(code), place, place+1))
			check(slices.Insert(slices.Clone(code), place, code[s.below(len(code))]))
			swapped, changed := slices.Clone(code), slices.Clone(code)
			with := s.below(len(code))
			swapped[place], swapped[with] = swapped[with], swapped[place]
			check(swapped)
			switch s.below(4) {
			case 0:
				changed[place].A += s.below(3) - 1
			case 1:
				changed[place].B += s.below(3) - 1
			case 2:
				changed[place].Op += s.below(3) - 1
			case 3:
				changed[place].Name = []string{"a", "", "q", "is", "!"}[s.below(5)]
			}
			check(changed)
		}
	}
	if other < 2000 || none < 20000 {
		t.Errorf("only %d codes were those of other clauses, and %d of none", other, none)
	}
}

// TestReadClausesShareNoMemory has terms that occur at several places.
func TestReadClausesShareNoMemory(t *testing.T) {
	const text, want = "p(f(C),B,f(C)):-q(f(C),g(f(C))),q(f(C),g(f(C))),r.", "p(f(A),B,f(A)):-q(f(A),g(f(A))),q(f(A),g(f(A))),r."
	code := mustCompile(t, mustClause(t, text))
	first, _ := impl.ReadClause(code, "p", 3)
	second, _ := impl.ReadClause(code, "p", 3)
	overwriteCode(code)
	if got := impl.FormatClause(first); got != want {
		t.Errorf("ReadClause shares memory with its argument: %s", got)
	}
	overwrite(first.Head.Kids[0].Kids)
	overwrite(first.Body[0].Kids)
	if got := impl.FormatClause(first); got != "p(f(77),B,f(A)):-q(77,77),q(f(A),g(f(A))),r." {
		t.Errorf("parts of a clause share memory: %s", got)
	}
	overwriteClauses([]impl.Clause{first})
	if got := impl.FormatClause(second); got != want {
		t.Errorf("two results of ReadClause share memory: %s", got)
	}
}
