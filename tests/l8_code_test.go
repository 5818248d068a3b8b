package tests

import (
	"fmt"
	"slices"
	"strings"
	"testing"

	"loop.example/prologserver/impl"
)

// linesOf returns the text of code whose instructions are separated by "; ".
func linesOf(code string) string {
	return strings.ReplaceAll(code, "; ", "\n") + "\n"
}

// codeOf returns the code with a text, in which each line is an instruction.
func codeOf(t *testing.T, text string) []impl.Instr {
	t.Helper()
	var code []impl.Instr
	for line := range strings.Lines(text) {
		x, ok := impl.ParseInstr(strings.TrimSuffix(line, "\n"))
		if !ok {
			t.Fatalf("ParseInstr(%q) finds no instruction", line)
		}
		code = append(code, x)
	}
	if back := impl.FormatCode(code); back != text {
		t.Fatalf("FormatCode = %q, not %q", back, text)
	}
	return code
}

// mustCompile returns the code of a clause, and checks that the clause is read back.
func mustCompile(t *testing.T, c impl.Clause) []impl.Instr {
	t.Helper()
	code, ok := impl.CompileClause(c)
	if !ok {
		t.Fatalf("CompileClause(%s) = false", impl.FormatClause(c))
	}
	want, _ := impl.RenumberClause(c)
	back, ok := impl.ReadClause(code, c.Head.Name, len(c.Head.Kids))
	if !ok || !impl.ClauseSame(back, want) {
		t.Fatalf("ReadClause of the code of %s = %s, %v, from\n%s", impl.FormatClause(c), impl.FormatClause(back), ok, impl.FormatCode(code))
	}
	return code
}

// checkCode checks rows of a clause and its code.
func checkCode(t *testing.T, rows [][2]string) {
	t.Helper()
	for _, row := range rows {
		want := linesOf(row[1])
		got := mustCompile(t, mustClause(t, row[0]))
		if text := impl.FormatCode(got); text != want || !slices.Equal(got, codeOf(t, want)) {
			t.Errorf("CompileClause(%s) = %q, not %q", row[0], text, want)
		}
	}
}

// checkBodyCode checks rows of goals and their code, in a query and in the body of a clause without arguments.
func checkBodyCode(t *testing.T, rows [][2]string) {
	t.Helper()
	for _, row := range rows {
		want := linesOf(row[1])
		got, ok := impl.CompileQuery(mustQuery(t, row[0]))
		if text := impl.FormatCode(got); !ok || text != want {
			t.Errorf("CompileQuery(%s) = %q, %v, not %q", row[0], text, ok, want)
		}
		checkCode(t, [][2]string{{"p:-" + row[0] + ".", row[1]}})
	}
}

func TestCodeOfHeads(t *testing.T) {
	checkCode(t, [][2]string{
		{"ok.", "end"}, {"p(A).", "end"}, {"p(A,B).", "end"}, {"p(A,B,C,D).", "end"}, {"p(C,A,D,B).", "end"},
		{"p(1).", "getint 1 0; end"}, {"p(0).", "getint 0 0; end"}, {"p(-1).", "getint -1 0; end"}, {"p(-1,0,999,-999).", "getint -1 0; getint 0 1; getint 999 2; getint -999 3; end"}, {"p(1,1).", "getint 1 0; getint 1 1; end"}, {"p(A,1,B,-2).", "getint 1 1; getint -2 3; end"},
		{"p(A,A).", "getval 0 1; end"}, {"p(A,B,A,B).", "getval 0 2; getval 1 3; end"}, {"p(A,B,B,A).", "getval 1 2; getval 0 3; end"}, {"p(A,A,A,A).", "getval 0 1; getval 0 2; getval 0 3; end"}, {"p(1,A,2,A).", "getint 1 0; getint 2 2; getval 1 3; end"}, {"p(B,A,A).", "getval 1 2; end"},
		{"p(a).", "getstr 0 0 a; end"}, {"p(a,b).", "getstr 0 0 a; getstr 0 1 b; end"}, {"p(a,a).", "getstr 0 0 a; getstr 0 1 a; end"}, {"p([]).", "getstr 0 0 []; end"}, {"p(!,-,=:=).", "getstr 0 0 !; getstr 0 1 -; getstr 0 2 =:=; end"},
		{"p(f(A)).", "getstr 1 0 f; univar 4; end"}, {"p(f(1,-2,A,B)).", "getstr 4 0 f; uniint 1; uniint -2; univar 4; univar 5; end"}, {"p(f(A,A)).", "getstr 2 0 f; univar 4; unival 4; end"}, {"p(f(A,B,A,B)).", "getstr 4 0 f; univar 4; univar 5; unival 4; unival 5; end"}, {"p(A+1,B is C).", "getstr 2 0 +; univar 4; uniint 1; getstr 2 1 is; univar 5; univar 6; end"},
		{"p([1]).", "getstr 2 0 .; uniint 1; univar 4; getstr 0 4 []; end"}, {"p([A|B]).", "getstr 2 0 .; univar 4; univar 5; end"}, {"p([A,B|C],C).", "getstr 2 0 .; univar 4; univar 5; getstr 2 5 .; univar 6; unival 1; end"}, {"p([[A]]).", "getstr 2 0 .; univar 4; univar 5; getstr 2 4 .; univar 6; univar 7; getstr 0 5 []; getstr 0 7 []; end"},
	})
}

// TestStructuresOfHeadsAreLeft has structures of the head, which follow all other arguments, in the order in which they were left.
func TestStructuresOfHeadsAreLeft(t *testing.T) {
	checkCode(t, [][2]string{
		{"p(f(A),A).", "getstr 1 0 f; unival 1; end"}, {"p(A,f(A)).", "getstr 1 1 f; unival 0; end"}, {"p(f(A),f(A)).", "getstr 1 0 f; univar 4; getstr 1 1 f; unival 4; end"}, {"p(f(A),g(B),A,B).", "getstr 1 0 f; unival 2; getstr 1 1 g; unival 3; end"},
		{"p(f(A,1),A,1,A).", "getint 1 2; getval 1 3; getstr 2 0 f; unival 1; uniint 1; end"}, {"p(1,f(B),A,A).", "getint 1 0; getval 2 3; getstr 1 1 f; univar 4; end"}, {"p(A,a,A,b).", "getval 0 2; getstr 0 1 a; getstr 0 3 b; end"}, {"p(a,1,B,f(B)).", "getint 1 1; getstr 0 0 a; getstr 1 3 f; unival 2; end"},
		{"p(f(g(1),A)).", "getstr 2 0 f; univar 4; univar 5; getstr 1 4 g; uniint 1; end"}, {"p(f(A,g(A))).", "getstr 2 0 f; univar 4; univar 5; getstr 1 5 g; unival 4; end"}, {"p(f(g(A),A)).", "getstr 2 0 f; univar 4; univar 5; getstr 1 4 g; unival 5; end"},
		{"p(f(g(A),h(B)),k(C)).", "getstr 2 0 f; univar 4; univar 5; getstr 1 1 k; univar 6; getstr 1 4 g; univar 7; getstr 1 5 h; univar 8; end"}, {"p(f(a,b),g(c,d)).", "getstr 2 0 f; univar 4; univar 5; getstr 2 1 g; univar 6; univar 7; getstr 0 4 a; getstr 0 5 b; getstr 0 6 c; getstr 0 7 d; end"},
		// The variable that comes first in the code can come last in the text.
		{"p(f(g(h(A,B)),B),k(m(A,C))).", "getstr 2 0 f; univar 4; univar 5; getstr 1 1 k; univar 6; getstr 1 4 g; univar 7; getstr 2 6 m; univar 8; univar 9; getstr 2 7 h; unival 8; unival 5; end"},
		{"p(f(g(h(A,k)))).", "getstr 1 0 f; univar 4; getstr 1 4 g; univar 5; getstr 2 5 h; univar 6; univar 7; getstr 0 7 k; end"}, {"p([a,[b,A],A|B]).", "getstr 2 0 .; univar 4; univar 5; getstr 0 4 a; getstr 2 5 .; univar 6; univar 7; getstr 2 6 .; univar 8; univar 9; getstr 2 7 .; univar 10; univar 11; getstr 0 8 b; getstr 2 9 .; unival 10; univar 12; getstr 0 12 []; end"},
	})
}

func TestCodeOfBodies(t *testing.T) {
	checkBodyCode(t, [][2]string{
		{"q", "call 0 q; end"}, {"q,r,q", "call 0 q; call 0 r; call 0 q; end"}, {"q(1,-2)", "putint 1 0; putint -2 1; call 2 q; end"}, {"q(999,-999,0,1)", "putint 999 0; putint -999 1; putint 0 2; putint 1 3; call 4 q; end"},
		{"q(A)", "putvar 4 0; call 1 q; end"}, {"q(A,A)", "putvar 4 0; putval 4 1; call 2 q; end"}, {"q(A,B,A,B)", "putvar 4 0; putvar 5 1; putval 4 2; putval 5 3; call 4 q; end"}, {"q(A),r(A,B),s(B)", "putvar 4 0; call 1 q; putval 4 0; putvar 5 1; call 2 r; putval 5 0; call 1 s; end"}, {"q(1,Z,a)", "putint 1 0; putvar 4 1; setstr 0 5 a; putval 5 2; call 3 q; end"},
		{"q(a)", "setstr 0 4 a; putval 4 0; call 1 q; end"}, {"q(a,a)", "setstr 0 4 a; putval 4 0; setstr 0 5 a; putval 5 1; call 2 q; end"}, {"q([])", "setstr 0 4 []; putval 4 0; call 1 q; end"}, {"q([1])", "setstr 0 4 []; setstr 2 5 .; uniint 1; unival 4; putval 5 0; call 1 q; end"}, {"q([A|B])", "setstr 2 4 .; univar 5; univar 6; putval 4 0; call 1 q; end"}, {"q([A,b|C],C)", "setstr 0 4 b; setstr 2 5 .; unival 4; univar 6; setstr 2 7 .; univar 8; unival 5; putval 7 0; putval 6 1; call 2 q; end"},
		// Goals that look like built-in ones but for the number of arguments are called.
		{"var,true(A),fail(1,2),arg(A)", "call 0 var; putvar 4 0; call 1 true; putint 1 0; putint 2 1; call 2 fail; putval 4 0; call 1 arg; end"},
		{"!", "cut; end"}, {"!,q", "cut; call 0 q; end"}, {"q,!", "call 0 q; cut; end"}, {"q,!,r", "call 0 q; cut; call 0 r; end"}, {"!,!,!,!,!,!", "cut; cut; cut; cut; cut; cut; end"}, {"q(A),!,r(A),!", "putvar 4 0; call 1 q; cut; putval 4 0; call 1 r; cut; end"}, {"q(!)", "setstr 0 4 !; putval 4 0; call 1 q; end"},
	})
	if code, ok := impl.CompileQuery(nil); !ok || impl.FormatCode(code) != "end\n" {
		t.Errorf("CompileQuery of no goals = %q, %v", impl.FormatCode(code), ok)
	}
}

// TestStructuresOfGoalsAreBuilt has structures in goals, which are built from the inside.
func TestStructuresOfGoalsAreBuilt(t *testing.T) {
	checkBodyCode(t, [][2]string{
		{"q(f(A))", "setstr 1 4 f; univar 5; putval 4 0; call 1 q; end"}, {"q(f(1,-1,A))", "setstr 3 4 f; uniint 1; uniint -1; univar 5; putval 4 0; call 1 q; end"}, {"q(A,f(A))", "putvar 4 0; setstr 1 5 f; unival 4; putval 5 1; call 2 q; end"}, {"q(f(A),A)", "setstr 1 4 f; univar 5; putval 4 0; putval 5 1; call 2 q; end"},
		{"q(f(A,A),A),r(A)", "setstr 2 4 f; univar 5; unival 5; putval 4 0; putval 5 1; call 2 q; putval 5 0; call 1 r; end"}, {"q(f(A,B)),r(B,A)", "setstr 2 4 f; univar 5; univar 6; putval 4 0; call 1 q; putval 6 0; putval 5 1; call 2 r; end"},
		// Structures inside come first, and have the first occurrence of a variable.
		{"q(f(A,g(A)))", "setstr 1 4 g; univar 5; setstr 2 6 f; unival 5; unival 4; putval 6 0; call 1 q; end"}, {"q(f(g(A),A))", "setstr 1 4 g; univar 5; setstr 2 6 f; unival 4; unival 5; putval 6 0; call 1 q; end"}, {"q(f(g(1),h(2),3))", "setstr 1 4 g; uniint 1; setstr 1 5 h; uniint 2; setstr 3 6 f; unival 4; unival 5; uniint 3; putval 6 0; call 1 q; end"}, {"q(f(3,a,B,b))", "setstr 0 4 a; setstr 0 5 b; setstr 4 6 f; uniint 3; unival 4; univar 7; unival 5; putval 6 0; call 1 q; end"},
		{"q(f(g(h(A)),B))", "setstr 1 4 h; univar 5; setstr 1 6 g; unival 4; setstr 2 7 f; unival 6; univar 8; putval 7 0; call 1 q; end"}, {"q(f(g(h(1),k(2)),m(n(A),A)),A)", "setstr 1 4 h; uniint 1; setstr 1 5 k; uniint 2; setstr 2 6 g; unival 4; unival 5; setstr 1 7 n; univar 8; setstr 2 9 m; unival 7; unival 8; setstr 2 10 f; unival 6; unival 9; putval 10 0; putval 8 1; call 2 q; end"},
		{"q(1,f(A),B,g(B,h(A)))", "putint 1 0; setstr 1 4 f; univar 5; putval 4 1; putvar 6 2; setstr 1 7 h; unival 5; setstr 2 8 g; unival 6; unival 7; putval 8 3; call 4 q; end"}, {"q(f(a)),r(f(a))", "setstr 0 4 a; setstr 1 5 f; unival 4; putval 5 0; call 1 q; setstr 0 6 a; setstr 1 7 f; unival 6; putval 7 0; call 1 r; end"},
	})
}

func TestCodeOfGoalsThatAreBuiltIn(t *testing.T) {
	checkBodyCode(t, [][2]string{
		{"true", "built 0 true; end"}, {"fail", "built 0 fail; end"}, {"true,!,fail", "built 0 true; cut; built 0 fail; end"}, {"var(A),nonvar(A)", "putvar 4 0; built 1 var; putval 4 0; built 1 nonvar; end"}, {"atom(a),int(-1)", "setstr 0 4 a; putval 4 0; built 1 atom; putint -1 0; built 1 int; end"}, {"A=B", "putvar 4 0; putvar 5 1; built 2 =; end"}, {"A=A", "putvar 4 0; putval 4 1; built 2 =; end"}, {"A=f(A),A\\=B,B==[]", "putvar 4 0; setstr 1 5 f; unival 4; putval 5 1; built 2 =; putval 4 0; putvar 6 1; built 2 \\=; putval 6 0; setstr 0 7 []; putval 7 1; built 2 ==; end"},
		{"A is 1", "putvar 4 0; putint 1 1; built 2 is; end"}, {"A is B+1", "putvar 4 0; setstr 2 5 +; univar 6; uniint 1; putval 5 1; built 2 is; end"}, {"A is B*2+C mod 3", "putvar 4 0; setstr 2 5 *; univar 6; uniint 2; setstr 2 7 mod; univar 8; uniint 3; setstr 2 9 +; unival 5; unival 7; putval 9 1; built 2 is; end"}, {"A is 1-(2-(3-B))", "putvar 4 0; setstr 2 5 -; uniint 3; univar 6; setstr 2 7 -; uniint 2; unival 5; setstr 2 8 -; uniint 1; unival 7; putval 8 1; built 2 is; end"},
		{"A<1,A>2,A=<3,A>=4,A=:=5", "putvar 4 0; putint 1 1; built 2 <; putval 4 0; putint 2 1; built 2 >; putval 4 0; putint 3 1; built 2 =<; putval 4 0; putint 4 1; built 2 >=; putval 4 0; putint 5 1; built 2 =:=; end"}, {"A+1<B//2", "setstr 2 4 +; univar 5; uniint 1; putval 4 0; setstr 2 6 //; univar 7; uniint 2; putval 6 1; built 2 <; end"}, {"1-2=:=(-1)", "setstr 2 4 -; uniint 1; uniint 2; putval 4 0; putint -1 1; built 2 =:=; end"},
		{"arg(1,f(a,A),A)", "putint 1 0; setstr 0 4 a; setstr 2 5 f; unival 4; univar 6; putval 5 1; putval 6 2; built 3 arg; end"},
	})
}

// TestVariablesOfClauses has variables that occur first in the head, in structures of the head, in goals, and in structures of goals.
func TestVariablesOfClauses(t *testing.T) {
	checkCode(t, [][2]string{
		{"p(A):-q(A).", "putval 0 0; call 1 q; end"}, {"p(A,B):-q(B,A).", "putval 1 0; putval 0 1; call 2 q; end"}, {"p(A,B,A):-q(A,B).", "getval 0 2; putval 0 0; putval 1 1; call 2 q; end"}, {"p(A):-q(B).", "putvar 4 0; call 1 q; end"}, {"p(A,1):-q(f(A)).", "getint 1 1; setstr 1 4 f; unival 0; putval 4 0; call 1 q; end"},
		{"p(f(A)):-q(A).", "getstr 1 0 f; univar 4; putval 4 0; call 1 q; end"}, {"p(f(g(A)),B):-q(B,A).", "getstr 1 0 f; univar 4; getstr 1 4 g; univar 5; putval 1 0; putval 5 1; call 2 q; end"}, {"p(f(A)):-q(B,A,C).", "getstr 1 0 f; univar 4; putvar 5 0; putval 4 1; putvar 6 2; call 3 q; end"}, {"p(a):-q(A).", "getstr 0 0 a; putvar 4 0; call 1 q; end"}, {"p(f(A),A):-q(f(A),A).", "getstr 1 0 f; unival 1; setstr 1 4 f; unival 1; putval 4 0; putval 1 1; call 2 q; end"},
		{"p(A,f(A)):-q(A).", "getstr 1 1 f; unival 0; putval 0 0; call 1 q; end"}, {"app([A|B],C,[A|D]):-app(B,C,D).", "getstr 2 0 .; univar 4; univar 5; getstr 2 2 .; unival 4; univar 6; putval 5 0; putval 1 1; putval 6 2; call 3 app; end"}, {"len([A|B],C):-len(B,D),C is D+1.", "getstr 2 0 .; univar 4; univar 5; putval 5 0; putvar 6 1; call 2 len; putval 1 0; setstr 2 7 +; unival 6; uniint 1; putval 7 1; built 2 is; end"},
		{"p(A,A,3):-!,B is A+1,q(g(B,h(C))).", "getval 0 1; getint 3 2; cut; putvar 4 0; setstr 2 5 +; unival 0; uniint 1; putval 5 1; built 2 is; setstr 1 6 h; univar 7; setstr 2 8 g; unival 4; unival 6; putval 8 0; call 1 q; end"},
		{"p(A):-q(f(B,g(B),B)),r(B,A).", "setstr 1 4 g; univar 5; setstr 3 6 f; unival 5; unival 4; unival 5; putval 6 0; call 1 q; putval 5 0; putval 0 1; call 2 r; end"},
	})
}

// TestClausesThatReachTheLimits has MaxArity arguments, MaxGoals goals, and every variable.
func TestClausesThatReachTheLimits(t *testing.T) {
	checkCode(t, [][2]string{
		{"p(f(A),A,-1,f(B)):-q(A,B,C,f(C,D)),!,E is A+B,r,s(E,D,F,1),fail.", "getint -1 2; getstr 1 0 f; unival 1; getstr 1 3 f; univar 4; putval 1 0; putval 4 1; putvar 5 2; setstr 2 6 f; unival 5; univar 7; putval 6 3; call 4 q; cut; putvar 8 0; setstr 2 9 +; unival 1; unival 4; putval 9 1; built 2 is; call 0 r; putval 8 0; putval 7 1; putvar 10 2; putint 1 3; call 4 s; built 0 fail; end"},
		{"p(A,B,C,D):-q(E,F,G,H),q(I,J,K,L),q(M,N,O,P),q(Q,R,S,T),q(U,V,W,X),q(Y,Z,A,Z).", "putvar 4 0; putvar 5 1; putvar 6 2; putvar 7 3; call 4 q; putvar 8 0; putvar 9 1; putvar 10 2; putvar 11 3; call 4 q; putvar 12 0; putvar 13 1; putvar 14 2; putvar 15 3; call 4 q; putvar 16 0; putvar 17 1; putvar 18 2; putvar 19 3; call 4 q; putvar 20 0; putvar 21 1; putvar 22 2; putvar 23 3; call 4 q; putvar 24 0; putvar 25 1; putval 0 2; putval 25 3; call 4 q; end"},
		{"p(Z,Y,f(X,W),Z):-q(V,U,f(T),S),f(R,Q)=f(P,O),q(N,M,L,K),q(J,I,H,G),q(F,E,D,C),q(B,A,Z,X).", "getval 0 3; getstr 2 2 f; univar 4; univar 5; putvar 6 0; putvar 7 1; setstr 1 8 f; univar 9; putval 8 2; putvar 10 3; call 4 q; setstr 2 11 f; univar 12; univar 13; putval 11 0; setstr 2 14 f; univar 15; univar 16; putval 14 1; built 2 =; putvar 17 0; putvar 18 1; putvar 19 2; putvar 20 3; call 4 q; putvar 21 0; putvar 22 1; putvar 23 2; putvar 24 3; call 4 q; putvar 25 0; putvar 26 1; putvar 27 2; putvar 28 3; call 4 q; putvar 29 0; putvar 30 1; putval 0 2; putval 4 3; call 4 q; end"},
		{"abcdef(abcdef):-fedcba(A),nonvar(A).", "getstr 0 0 abcdef; putvar 4 0; call 1 fedcba; putval 4 0; built 1 nonvar; end"},
	})
	goal := structure("q", number(1))
	for goals := range impl.MaxGoals + 3 {
		valid, want := goals <= impl.MaxGoals, strings.Repeat("putint 1 0\ncall 1 q\n", goals)+"end\n"
		code, ok := impl.CompileQuery(slices.Repeat([]impl.Term{goal}, goals))
		if text := impl.FormatCode(code); ok != valid || valid && text != want || !valid && len(code) > 0 {
			t.Errorf("CompileQuery of %d goals = %q, %v", goals, text, ok)
		}
		code, ok = impl.CompileClause(repeated(goals, goal))
		if text := impl.FormatCode(code); ok != valid || valid && text != want || !valid && len(code) > 0 {
			t.Errorf("CompileClause of %d goals = %q, %v", goals, text, ok)
		}
	}
}

// TestLargestClauses has terms with MaxNodes nodes or of the depth MaxDepth, everywhere.
func TestLargestClauses(t *testing.T) {
	for _, x := range []impl.Term{bush(impl.MaxNodes), chain(impl.MaxDepth), longList(), mixed(impl.MaxNodes)} {
		c := repeated(impl.MaxGoals, x)
		c.Head = x
		code := mustCompile(t, c)
		if text := impl.FormatCode(code); text == "" || text != slowCode(c) {
			t.Errorf("CompileClause of terms with %d nodes = %q", impl.CountNodes(x), text)
		}
		query, ok := impl.CompileQuery(c.Body)
		if text := impl.FormatCode(query); !ok || text == "" || text != slowQueryCode(c.Body) {
			t.Errorf("CompileQuery of terms with %d nodes = %q", impl.CountNodes(x), text)
		}
	}
	c := repeated(impl.MaxGoals, bush(impl.MaxNodes))
	c.Head = bush(impl.MaxNodes)
	// Each node below the head and the goals has a slot: the arguments of the head have the first four.
	if got, want := impl.CodeSlots(mustCompile(t, c)), (impl.MaxGoals+1)*(impl.MaxNodes-1); got != want {
		t.Errorf("the largest clause has %d slots, not %d", got, want)
	}
}

// longList returns a goal with a list of variables, numbers and atoms that has as many elements as it can.
func longList() impl.Term {
	list := structure("[]")
	for i := range impl.MaxDepth - 2 {
		list = structure(".", []impl.Term{variable(i % (impl.MaxVar + 1)), number(i), structure("a")}[i%3], list)
	}
	return structure("p", list)
}

// mixed returns a bush with this number of nodes, in which some atoms are variables and numbers.
func mixed(nodes int) impl.Term {
	count := 0
	var change func(x impl.Term) impl.Term
	change = func(x impl.Term) impl.Term {
		if len(x.Kids) == 0 {
			count++
			return []impl.Term{x, variable(count % (impl.MaxVar + 1)), number(count), variable(count / 3 % (impl.MaxVar + 1))}[count%4]
		}
		for i, kid := range x.Kids {
			x.Kids[i] = change(kid)
		}
		return x
	}
	return change(bush(nodes))
}

func TestCodeOfInvalidClausesAndQueries(t *testing.T) {
	for name, bad := range invalidClauses() {
		if code, ok := impl.CompileClause(bad); ok || len(code) > 0 {
			t.Errorf("%s: CompileClause = %v, %v", name, code, ok)
		}
	}
	for name, bad := range invalidQueries() {
		if code, ok := impl.CompileQuery(bad); ok || len(code) > 0 {
			t.Errorf("%s: CompileQuery = %v, %v", name, code, ok)
		}
	}
}

// TestCodeOfArgumentsInEveryOrder has heads and goals with all kinds of arguments at all places.
func TestCodeOfArgumentsInEveryOrder(t *testing.T) {
	parts := mustParseAll(t, "A", "B", "1", "-2", "a", "f(A)", "f(C)", "f(1,g(B,C),A)", "[A|B]")
	count := 0
	var add func(args []impl.Term)
	add = func(args []impl.Term) {
		x := structure("p", args...)
		c := impl.Clause{Head: x, Body: []impl.Term{structure("q", variable(1), structure("f", variable(2), variable(0)))}}
		for _, c := range []impl.Clause{c, {Head: structure("p"), Body: []impl.Term{x, c.Body[0], x}}} {
			if got := impl.FormatCode(mustCompile(t, c)); got != slowCode(c) {
				t.Fatalf("CompileClause(%s) = %q, not %q", impl.FormatClause(c), got, slowCode(c))
			}
			count++
		}
		if len(args) == impl.MaxArity {
			return
		}
		for _, part := range parts {
			add(append(slices.Clone(args), part))
		}
	}
	add(nil)
	if count < 14000 {
		t.Errorf("only %d clauses were compiled", count)
	}
}

// TestCodeOfManyClauses compares the code of random clauses and queries with that of slowCompiler.
func TestCodeOfManyClauses(t *testing.T) {
	s := source{state: 51}
	valid, refused := 0, 0
	texts := map[string]impl.Clause{}
	for range 15000 {
		for _, c := range []impl.Clause{s.clause(), s.knownClause()} {
			if !impl.ClauseValid(c) {
				if code, ok := impl.CompileClause(c); ok || len(code) > 0 {
					t.Fatalf("CompileClause of a clause that is not valid = %v, %v", code, ok)
				}
				refused++
				continue
			}
			valid++
			text := impl.FormatCode(mustCompile(t, c))
			if text != slowCode(c) {
				t.Fatalf("CompileClause(%s) = %q, not %q", impl.FormatClause(c), text, slowCode(c))
			}
			key := fmt.Sprint(c.Head.Name, len(c.Head.Kids), text)
			one, _ := impl.RenumberClause(c)
			if other, known := texts[key]; known && !impl.ClauseSame(other, one) {
				t.Fatalf("%s and %s have the same code", impl.FormatClause(other), impl.FormatClause(one))
			}
			texts[key] = one
			code, ok := impl.CompileQuery(c.Body)
			if got := impl.FormatCode(code); !ok || got != slowQueryCode(c.Body) {
				t.Fatalf("CompileQuery(%s) = %q, %v", writeAll(c.Body), got, ok)
			}
		}
	}
	if valid < 20000 || refused < 1000 {
		t.Errorf("only %d clauses were valid, and %d were not", valid, refused)
	}
}

// overwriteCode changes all memory of code, unused capacity included.
func overwriteCode(code []impl.Instr) {
	code = code[:cap(code)]
	for i := range code {
		code[i] = impl.Instr{Op: 77, A: 77, B: 77, Name: "x"}
	}
}

func TestCodeSharesNoMemory(t *testing.T) {
	const text, want = "p(f(C),A):-q(g(f(C),A)),r.", "getstr 1 0 f\nunival 1\nend\n"
	c := mustClause(t, text)
	first, second := mustCompile(t, c), mustCompile(t, c)
	query, again := mustQuery(t, "q(g(f(C),A)),r"), mustQuery(t, "q(g(f(C),A)),r")
	firstQuery, _ := impl.CompileQuery(query)
	secondQuery, _ := impl.CompileQuery(query)
	codeText, queryText := impl.FormatCode(first), impl.FormatCode(firstQuery)
	overwriteClauses([]impl.Clause{c})
	overwrite(query)
	if impl.FormatCode(first) != codeText || impl.FormatCode(firstQuery) != queryText {
		t.Error("code shares memory with an argument")
	}
	overwriteCode(first)
	overwriteCode(firstQuery)
	if impl.FormatCode(second) != codeText || impl.FormatCode(secondQuery) != queryText {
		t.Error("two results share memory")
	}
	third, _ := impl.CompileQuery(again)
	if impl.FormatCode(third) != queryText || impl.FormatCode(mustCompile(t, mustClause(t, "p(f(A),A)."))) != want {
		t.Error("a result shares memory with a later one")
	}
}

// TestCompilingChangesNothing has arguments with memory beyond their length.
func TestCompilingChangesNothing(t *testing.T) {
	kids := []impl.Term{structure("f", variable(4)), variable(9), number(7), number(8)}
	goal := impl.Term{Kind: impl.TermStruct, Name: "q", Kids: kids[:2]}
	goals := []impl.Term{goal, structure("!"), number(5), number(6)}
	for range 3 {
		impl.CompileClause(impl.Clause{Head: goal, Body: goals[:2]})
		impl.CompileQuery(goals[:2])
	}
	if got := formatAll(kids) + " " + formatAll(goals); got != "f(E) J 7 8 q(f(E),J) ! 5 6" {
		t.Errorf("an argument was changed: %s", got)
	}
}
