package tests

import (
	"slices"
	"strings"
	"testing"

	"loop.example/prologserver/impl"
)

// codeNames has the names of the codes, in their order.
var codeNames = []string{"true", "fail", "inst", "type", "zero", "range", "none"}

func codeName(code int) string {
	if code < 0 || code >= len(codeNames) {
		return "no code"
	}
	return codeNames[code]
}

// checkValue checks what EvalArith returns for x.
func checkValue(t *testing.T, x impl.Term, want int, wantCode int) {
	t.Helper()
	if got, code := impl.EvalArith(x); got != want || code != wantCode {
		t.Errorf("EvalArith(%s) = %d, %s, not %d, %s", impl.FormatTerm(x), got, codeName(code), want, codeName(wantCode))
	}
}

// checkCall checks what CallBuiltin returns for a goal, with bindings as formatBinds writes them.
func checkCall(t *testing.T, goal impl.Term, want string, wantCode int) {
	t.Helper()
	binds, code := impl.CallBuiltin(goal)
	if got := formatBinds(binds); got != want || code != wantCode || code != impl.CallTrue && len(binds) > 0 {
		t.Errorf("CallBuiltin(%s) = %q, %s, not %q, %s", impl.FormatTerm(goal), got, codeName(code), want, codeName(wantCode))
	}
}

func TestCodes(t *testing.T) {
	codes := []int{impl.CallTrue, impl.CallFail, impl.CallInst, impl.CallType, impl.CallZero, impl.CallRange, impl.CallNone}
	for i, code := range codes {
		if code != i {
			t.Errorf("the code of %s is %d", codeName(i), code)
		}
	}
}

func TestEvalArith(t *testing.T) {
	cases := map[string]int{
		"0": 0, "7": 7, "-7": -7, "999": 999, "-999": -999,
		"1+2": 3, "1-2": -1, "3*4": 12, "-3*4": -12, "2+3*4": 14, "(2+3)*4": 20, "1-2-3": -4, "1-(2-3)": 2, "2*(-3)": -6, "7//2*2": 6, "7//(2*2)": 1, "8//4//2": 1, "8//(4//2)": 4,
		"998+1": 999, "999+0": 999, "-998-1": -999, "-999+0": -999, "999-999": 0, "-999-(-999)": 0, "27*37": 999, "-27*37": -999, "-27*(-37)": 999,
		"7//2": 3, "-7//2": -3, "7//(-2)": -3, "-7//(-2)": 3, "6//2": 3, "-6//2": -3, "6//(-2)": -3, "-6//(-2)": 3, "1//2": 0, "-1//2": 0, "1//(-2)": 0, "-1//(-2)": 0, "0//5": 0, "0//(-5)": 0,
		"999//(-1)": -999, "-999//(-1)": 999, "-999//1": -999, "999//999": 1, "998//999": 0, "-998//999": 0,
		"7 mod 3": 1, "-7 mod 3": 2, "7 mod (-3)": -2, "-7 mod (-3)": -1, "6 mod 3": 0, "-6 mod 3": 0, "6 mod (-3)": 0, "-6 mod (-3)": 0, "2 mod 3": 2, "-2 mod 3": 1, "2 mod (-3)": -1, "-2 mod (-3)": -2,
		"0 mod 5": 0, "0 mod (-5)": 0, "5 mod 1": 0, "-5 mod (-1)": 0, "-1 mod 999": 998, "1 mod (-999)": -998, "999 mod 998": 1, "7 mod 2 mod 1": 0, "7-7 mod 4": 4, "(7-7) mod 4": 0,
		"(1+2)*(3-4)//5 mod 6": 0, "-7//2-(-7 mod 2)": -4, "500+499": 999, "-500-499": -999, "999-1+1": 999, "3*333-999": 0,
	}
	for text, want := range cases {
		checkValue(t, mustRead(t, text), want, impl.CallTrue)
		checkCall(t, structure("is", variable(0), mustRead(t, text)), "A="+impl.FormatTerm(number(want)), impl.CallTrue)
	}
}

func TestValuesPastTheLimits(t *testing.T) {
	sums := []string{"999+1", "1+999", "999+999", "-999-1", "-999+(-1)", "-999-999", "1-(-999)", "500*2", "2*500", "-500*2", "28*37", "999*999", "-999*999", "-999*(-999)", "999*(-2)", "32*32", "-32*32"}
	for _, text := range sums {
		over := mustRead(t, text)
		checkValue(t, over, 0, impl.CallRange)
		// A part is past the limits, and the whole would not be.
		for _, whole := range []string{"//(999,%)", "//(%,999)", "mod(%,2)", "mod(2,%)", "*(%,0)", "*(0,%)", "-(%,999)", "+(-999,%)", "+(+(1,%),2)", "-(0,-(%,%))"} {
			x := replaceHoles(mustParse(t, strings.ReplaceAll(whole, "%", "hole")), over)
			checkValue(t, x, 0, impl.CallRange)
			checkCall(t, structure("is", variable(0), x), "", impl.CallRange)
			checkCall(t, structure("=:=", x, number(0)), "", impl.CallRange)
			checkCall(t, structure("<", number(0), x), "", impl.CallRange)
		}
	}
}

// replaceHoles returns x with value in the places of the atom hole.
func replaceHoles(x impl.Term, value impl.Term) impl.Term {
	if x.Name == "hole" {
		return value
	}
	y := impl.Term{Kind: x.Kind, N: x.N, Name: x.Name}
	for _, kid := range x.Kids {
		y.Kids = append(y.Kids, replaceHoles(kid, value))
	}
	return y
}

// slowQuotient counts how often the second number goes into the first one.
func slowQuotient(a int, b int) int {
	times := 0
	for left := max(a, -a); left >= max(b, -b); left -= max(b, -b) {
		times++
	}
	if (a < 0) != (b < 0) {
		return -times
	}
	return times
}

// slowRemainder looks for the only number with the sign of b that is nearer to 0 and fits.
func slowRemainder(a int, b int) int {
	step := 1
	if b < 0 {
		step = -1
	}
	rest := 0
	for (a-rest)%b != 0 {
		rest += step
	}
	return rest
}

// slowValue evaluates x as the document says it.
func slowValue(x impl.Term) (int, int) {
	switch {
	case x.Kind == impl.TermVar:
		return 0, impl.CallInst
	case x.Kind == impl.TermInt:
		return x.N, impl.CallTrue
	case len(x.Kids) != 2 || !slices.Contains([]string{"+", "-", "*", "//", "mod"}, x.Name):
		return 0, impl.CallType
	}
	a, code := slowValue(x.Kids[0])
	if code != impl.CallTrue {
		return 0, code
	}
	b, code := slowValue(x.Kids[1])
	if code != impl.CallTrue {
		return 0, code
	}
	if b == 0 && (x.Name == "//" || x.Name == "mod") {
		return 0, impl.CallZero
	}
	value := 0
	switch x.Name {
	case "+":
		value = a + b
	case "-":
		value = a - b
	case "*":
		value = a * b
	case "//":
		value = slowQuotient(a, b)
	case "mod":
		value = slowRemainder(a, b)
	}
	if value < -impl.MaxInt || value > impl.MaxInt {
		return 0, impl.CallRange
	}
	return value, impl.CallTrue
}

// TestOperationsWithManyNumbers tries all pairs of numbers near 0 and near the limits.
func TestOperationsWithManyNumbers(t *testing.T) {
	var numbers []int
	for n := range 41 {
		numbers = append(numbers, n-20)
	}
	for _, n := range []int{31, 32, 37, 333, 499, 500, 501, 997, 998, 999} {
		numbers = append(numbers, n, -n)
	}
	for _, name := range []string{"+", "-", "*", "//", "mod"} {
		for _, a := range numbers {
			for _, b := range numbers {
				x := structure(name, number(a), number(b))
				want, code := slowValue(x)
				checkValue(t, x, want, code)
			}
		}
	}
}

// arithmetic returns a term of which most have a value.
func (s *source) arithmetic(depth int) impl.Term {
	if depth == 0 || s.below(5) == 0 {
		switch s.below(40) {
		case 0:
			return variable(s.below(3))
		case 1:
			return s.term(min(depth, 1))
		case 2, 3, 4:
			return number(s.below(2*impl.MaxInt+1) - impl.MaxInt)
		}
		return number(s.below(25) - 12)
	}
	names := []string{"+", "-", "*", "//", "mod"}
	return structure(names[s.below(len(names))], s.arithmetic(depth-1), s.arithmetic(depth-1))
}

func TestRandomArithmetic(t *testing.T) {
	s := source{state: 21}
	met := make([]int, len(codeNames))
	for range 20000 {
		x := s.arithmetic(s.below(5))
		if !impl.TermValid(x) {
			continue
		}
		want, code := slowValue(x)
		checkValue(t, x, want, code)
		met[code]++
	}
	for _, code := range []int{impl.CallTrue, impl.CallInst, impl.CallType, impl.CallZero, impl.CallRange} {
		if met[code] < 500 {
			t.Errorf("only %d terms have the code %s", met[code], codeName(code))
		}
	}
}

// codeTerms returns terms of chapter 2 that have no value, with the codes that they have.
func codeTerms() map[string]int {
	return map[string]int{
		"A": impl.CallInst, "Z": impl.CallInst, "A+1": impl.CallInst, "1+A": impl.CallInst, "1-2*A": impl.CallInst, "A//0": impl.CallInst,
		"foo": impl.CallType, "[]": impl.CallType, "(+)": impl.CallType, "(mod)": impl.CallType, "!": impl.CallType, "[1]": impl.CallType, "[1|A]": impl.CallType, "f(1)": impl.CallType, "f(1,2)": impl.CallType, "f(A,1//0)": impl.CallType,
		"-(5)": impl.CallType, "-(A)": impl.CallType, "+(1,2,3)": impl.CallType, "*(1//0)": impl.CallType, "//(1)": impl.CallType, "mod(1)": impl.CallType, "mod(5,3,0)": impl.CallType, "+(A,1,2,3)": impl.CallType,
		"1=2": impl.CallType, "(1 is 1)": impl.CallType, "(1<2)": impl.CallType, "(1//0)=1": impl.CallType, "foo+1": impl.CallType, "1*foo": impl.CallType, "foo mod 0": impl.CallType,
		"1//0": impl.CallZero, "0//0": impl.CallZero, "-1//0": impl.CallZero, "1 mod 0": impl.CallZero, "0 mod 0": impl.CallZero, "7//(3-3)": impl.CallZero, "7 mod (2*0)": impl.CallZero, "2*(1//0)": impl.CallZero, "999//(0//5)": impl.CallZero,
		"999+1": impl.CallRange, "-999-1": impl.CallRange, "999*999": impl.CallRange, "1+(999+1)": impl.CallRange, "(500+500)//0": impl.CallRange, "(500+500) mod A": impl.CallRange,
	}
}

func TestTermsWithoutValues(t *testing.T) {
	for text, code := range codeTerms() {
		x := mustRead(t, text)
		checkValue(t, x, 0, code)
		for _, name := range []string{"<", ">", "=<", ">=", "=:="} {
			checkCall(t, structure(name, x, number(1)), "", code)
			checkCall(t, structure(name, number(1), x), "", code)
			checkCall(t, structure(name, number(1), structure("+", x, number(0))), "", code)
		}
		// What stands on the left of is has no code of its own.
		for _, left := range []impl.Term{variable(9), variable(0), number(1), structure("a"), mustRead(t, "1//0"), x} {
			checkCall(t, structure("is", left, x), "", code)
		}
	}
}

// TestTheFirstCode has two terms without values as the arguments of operations and comparisons.
func TestTheFirstCode(t *testing.T) {
	for first, firstCode := range codeTerms() {
		for second := range codeTerms() {
			a, b := mustRead(t, first), mustRead(t, second)
			for _, name := range []string{"+", "-", "*", "//", "mod"} {
				both := structure(name, a, b)
				checkValue(t, both, 0, firstCode)
				checkValue(t, structure(name, both, b), 0, firstCode)
				checkValue(t, structure(name, number(0), structure(name, both, b)), 0, firstCode)
			}
			for _, name := range []string{"<", ">", "=<", ">=", "=:="} {
				checkCall(t, structure(name, a, b), "", firstCode)
				checkCall(t, structure(name, number(1), structure("*", a, b)), "", firstCode)
			}
			checkCall(t, structure("is", b, a), "", firstCode)
			checkCall(t, structure("is", variable(20), structure("-", a, b)), "", firstCode)
			checkValue(t, structure("f", a, b), 0, impl.CallType)
			checkValue(t, structure("+", a, b, number(1)), 0, impl.CallType)
			checkValue(t, structure("-", a), 0, impl.CallType)
		}
	}
}

// sumOfOnes returns a sum of this number of ones, of little depth.
func sumOfOnes(ones int) impl.Term {
	if ones == 1 {
		return number(1)
	}
	return structure("+", sumOfOnes(ones/2), sumOfOnes(ones-ones/2))
}

func TestLargeTerms(t *testing.T) {
	x := number(1)
	for range impl.MaxDepth - 1 {
		x = structure("+", x, number(1))
	}
	checkValue(t, x, impl.MaxDepth, impl.CallTrue)
	checkValue(t, structure("+", x, number(1)), 0, impl.CallNone)
	ones := sumOfOnes(impl.MaxNodes / 2)
	checkValue(t, ones, impl.MaxNodes/2, impl.CallTrue)
	checkValue(t, structure("-", ones, number(0)), 0, impl.CallNone)
}

// TestCallBuiltin has goals with their bindings and codes, for each row of the table.
func TestCallBuiltin(t *testing.T) {
	const no, inst, kind, zero, large = "fail", "inst", "type", "zero", "range"
	cases := [][2]string{
		{"true", ""}, {"fail", no},
		{"A=A", ""}, {"A=B", "A=B"}, {"B=A", "B=A"}, {"1=1", ""}, {"1=2", no}, {"1=a", no}, {"a=a", ""}, {"a=b", no}, {"A=1", "A=1"}, {"1=A", "A=1"}, {"A=f(B,C)", "A=f(B,C)"}, {"f(B)=A", "A=f(B)"},
		{"f(A,g(B))=f(g(C),A)", "A=g(C) B=C"}, {"f(A,B)=f(B,A)", "A=B"}, {"f(A,B,C)=f(B,C,1)", "A=1 B=1 C=1"}, {"[A|B]=[1,2]", "A=1 B=[2]"}, {"[]=[A]", no}, {"f(A)=f(A,B)", no}, {"f(A)=g(A)", no}, {"f(Z,1)=f(1,Z)", "Z=1"}, {"f(A,A)=f(1,2)", no},
		{"A=1+2", "A=+(1,2)"}, {"3=1+2", no}, {"1+A=1+2", "A=2"}, {"A=1//0", "A=//(1,0)"}, {"A=999*999", "A=*(999,999)"}, {"A=foo+B", "A=+(foo,B)"}, {"A=(!)", "A=!"}, {"A=(B=C)", "A==(B,C)"},
		{"A=f(A)", no}, {"f(A)=A", no}, {"A=[1,A]", no}, {"A=A+1", no}, {"f(A,B)=f(g(B),g(A))", no}, {"f(A,A)=f(B,g(B))", no}, {"f(A,B)=f(B,g(A))", no}, {"f(A)=f(A)", ""},
		{"A\\=A", no}, {"A\\=B", no}, {"A\\=1", no}, {"1\\=A", no}, {"1\\=1", no}, {"1\\=2", ""}, {"a\\=b", ""}, {"1\\=a", ""}, {"f(A)\\=f(1)", no}, {"f(A,A)\\=f(1,2)", ""}, {"f(A,B)\\=f(1,2)", no}, {"f(A,1)\\=f(B,2)", ""}, {"A\\=f(A)", ""}, {"f(B,A)\\=f(g(A),g(B))", ""}, {"3\\=1+2", ""}, {"A\\=1//0", no}, {"[A|B]\\=[]", ""},
		{"A==A", ""}, {"A==B", no}, {"B==A", no}, {"A==1", no}, {"1==1", ""}, {"1==2", no}, {"1==(-1)", no}, {"a==a", ""}, {"a==b", no}, {"f(A,B)==f(A,B)", ""}, {"f(A,B)==f(B,A)", no}, {"f(A)==f(A,B)", no}, {"[A]==[A]", ""}, {"[A]==[A|B]", no}, {"3==1+2", no}, {"1+2==1+2", ""}, {"1//0==1//0", ""}, {"A==f(A)", no},
		{"A is 3", "A=3"}, {"A is 1+2", "A=3"}, {"B is 2*3-1", "B=5"}, {"A is -7//2", "A=-3"}, {"A is 7 mod (-3)", "A=-2"}, {"A is 999+0", "A=999"}, {"Z is 0-999", "Z=-999"}, {"3 is 1+2", ""}, {"4 is 1+2", no}, {"-3 is 1+2", no}, {"a is 3", no}, {"[] is 0", no}, {"f(A) is 3", no}, {"1+2 is 3", no}, {"1+2 is 1+2", no}, {"A+1 is 3", no}, {"[3] is 3", no},
		{"A is A", inst}, {"A is A+1", inst}, {"A is B", inst}, {"A is B+1", inst}, {"3 is A", inst}, {"a is A", inst}, {"A is a", kind}, {"a is a", kind}, {"f(A) is f(A)", kind}, {"A is 1//0", zero}, {"a is 1//0", zero}, {"A is 1 mod 0", zero}, {"A is 999+1", large}, {"1 is 999+1", large}, {"A is 0-999-1+1", large}, {"A is 1//0+A", zero}, {"A is A+1//0", inst},
		{"1<2", ""}, {"2<1", no}, {"1<1", no}, {"-2<(-1)", ""}, {"1+1<3", ""}, {"3<1+1", no}, {"1+1<2*2", ""}, {"-999<999", ""}, {"A<1", inst}, {"1<A", inst}, {"A<A", inst}, {"A<foo", inst}, {"foo<A", kind}, {"1//0<A", zero}, {"A<1//0", inst}, {"1<999+1", large}, {"999<999+1", large},
		{"1>2", no}, {"2>1", ""}, {"1>1", no}, {"-1>(-2)", ""}, {"7//2>2", ""}, {"2>7//2", no}, {"2*2>1+1", ""}, {"A>1", inst}, {"1>a", kind}, {"foo>A", kind}, {"1>1 mod 0", zero}, {"999*2>1", large},
		{"1=<2", ""}, {"2=<1", no}, {"1=<1", ""}, {"-1=<1", ""}, {"1+1=<2", ""}, {"3-0=<1+1", no}, {"A=<1", inst}, {"a=<A", kind}, {"1=<1//0", zero}, {"999+1=<1//0", large},
		{"1>=2", no}, {"2>=1", ""}, {"1>=1", ""}, {"2>=1+1", ""}, {"0-1>=0", no}, {"1>=A", inst}, {"f(1)>=1", kind}, {"1//0>=999+1", zero}, {"999+1>=A", large},
		{"1=:=2", no}, {"2=:=1", no}, {"1=:=1", ""}, {"1+1=:=2", ""}, {"2=:=1+1", ""}, {"7//2=:=7-4", ""}, {"2*2=:=2+3", no}, {"A=:=A", inst}, {"a=:=a", kind}, {"1//0=:=1//0", zero}, {"999+1=:=999+1", large},
		{"var(A)", ""}, {"var(Z)", ""}, {"var(1)", no}, {"var(-1)", no}, {"var(a)", no}, {"var([])", no}, {"var(f(A))", no}, {"var([A|B])", no}, {"var(A+1)", no},
		{"nonvar(A)", no}, {"nonvar(Z)", no}, {"nonvar(1)", ""}, {"nonvar(-1)", ""}, {"nonvar(a)", ""}, {"nonvar([])", ""}, {"nonvar(f(A))", ""}, {"nonvar([A|B])", ""}, {"nonvar(A+1)", ""},
		{"atom(A)", no}, {"atom(Z)", no}, {"atom(1)", no}, {"atom(-1)", no}, {"atom(a)", ""}, {"atom([])", ""}, {"atom(!)", ""}, {"atom(+)", ""}, {"atom(is)", ""}, {"atom(f(A))", no}, {"atom([a])", no}, {"atom(1+2)", no},
		{"int(A)", no}, {"int(Z)", no}, {"int(1)", ""}, {"int(0)", ""}, {"int(-999)", ""}, {"int(a)", no}, {"int([])", no}, {"int(f(1))", no}, {"int(1+2)", no}, {"int(-(1))", no},
		{"arg(1,f(a),A)", "A=a"}, {"arg(1,f(a),a)", ""}, {"arg(1,f(a),b)", no}, {"arg(1,f(A),b)", "A=b"}, {"arg(1,f(A),A)", ""}, {"arg(1,f(A),B)", "B=A"}, {"arg(1,f(B),A)", "A=B"}, {"arg(2,f(1,2,3,4),A)", "A=2"}, {"arg(4,f(1,2,3,4),A)", "A=4"}, {"arg(1,[a,b],A)", "A=a"}, {"arg(2,[a,b],A)", "A=[b]"}, {"arg(2,1-2,A)", "A=2"},
		{"arg(1,f(g(A,B)),g(B,1))", "A=1 B=1"}, {"arg(2,f(A,g(A)),g(1))", "A=1"}, {"arg(1,f(g(A)),g(f(A)))", no}, {"arg(1,f(A),g(A))", no}, {"arg(1,f(g(A)),A)", no}, {"arg(1,f(1),1+0)", no}, {"arg(1,f(1+0),A)", "A=+(1,0)"}, {"arg(2,f(A,A),1)", "A=1"}, {"arg(1,f(C,D),f(C,D))", no}, {"arg(1,f(A),f(B))", "A=f(B)"},
		{"arg(0,f(a),A)", no}, {"arg(-1,f(a),A)", no}, {"arg(2,f(a),A)", no}, {"arg(5,f(1,2,3,4),A)", no}, {"arg(999,f(a),A)", no}, {"arg(-999,f(a),A)", no}, {"arg(0,f(a),a)", no}, {"arg(3,[a,b],A)", no},
		{"arg(A,f(a),a)", inst}, {"arg(A,f(a),A)", inst}, {"arg(A,B,C)", inst}, {"arg(A,a,B)", inst}, {"arg(A,1,B)", inst}, {"arg(1,A,B)", inst}, {"arg(0,A,B)", inst}, {"arg(a,A,B)", inst}, {"arg(f(1),A,B)", inst}, {"arg(1,A,A)", inst}, {"arg(-1,A,1)", inst},
		{"arg(1,a,A)", kind}, {"arg(1,[],A)", kind}, {"arg(1,7,A)", kind}, {"arg(0,a,A)", kind}, {"arg(5,1,A)", kind}, {"arg(a,f(a),A)", kind}, {"arg([],f(a),A)", kind}, {"arg(f(A),f(a),A)", kind}, {"arg(1+0,f(a),A)", kind}, {"arg(1//0,f(a),A)", kind}, {"arg(a,a,A)", kind}, {"arg(a,1,A)", kind},
	}
	for _, c := range cases {
		code := slices.Index(codeNames, c[1])
		if code == -1 {
			checkCall(t, mustRead(t, c[0]), c[1], impl.CallTrue)
		} else {
			checkCall(t, mustRead(t, c[0]), "", code)
		}
	}
}

// TestCallsOfAllNames checks that goals are solved if they are built in, and no others.
func TestCallsOfAllNames(t *testing.T) {
	compares := []string{"<", ">", "=<", ">=", "=:="}
	for _, name := range allNames() {
		for arity := 0; arity <= impl.MaxArity; arity++ {
			for _, kid := range []impl.Term{variable(0), number(1), structure("a"), structure("f", number(2))} {
				x := structure(name, slices.Repeat([]impl.Term{kid}, arity)...)
				binds, code := impl.CallBuiltin(x)
				if (code == impl.CallNone) == impl.IsBuiltin(name, arity) || len(binds) > 0 {
					t.Errorf("CallBuiltin(%s) = %s, %s", impl.FormatTerm(x), formatBinds(binds), codeName(code))
				}
				want := arity == 2 && slices.Contains(compares, name)
				if got := impl.CompareGoal(x); got != want {
					t.Errorf("CompareGoal(%s) = %v", impl.FormatTerm(x), got)
				}
			}
		}
	}
}

func TestGoalsThatAreNotBuiltIn(t *testing.T) {
	texts := []string{
		"A", "1", "-1", "[]", "[a]", "!", "p", "p(A)", "p(1,2)", "foo(1)", "a+b", "1-2", "A*B", "1//0", "7 mod 2", "is", "mod", "+", "=", ".", "!(A)",
		"true(A)", "true(true)", "fail(1)", "fail(A,B)", "=(A)", "=(A,B,C)", "\\=(1)", "==(A,A,A)", "is(A)", "is(A,1,2)", "<(1)", ">(1,2,3)", "=<(1)", ">=(2,1,0)", "=:=(1)",
		"var", "var(A,B)", "nonvar", "nonvar(1,2)", "atom", "atom(a,b)", "int", "int(1,2)", "arg", "arg(1)", "arg(1,f(a))", "arg(1,f(a),A,B)",
	}
	for _, text := range texts {
		x := mustRead(t, text)
		checkCall(t, x, "", impl.CallNone)
		if impl.CompareGoal(x) {
			t.Errorf("CompareGoal(%s) = true", text)
		}
	}
}

func TestCompareGoal(t *testing.T) {
	for _, text := range []string{"A<B", "A>B", "A=<B", "A>=B", "A=:=B", "1<2", "2<1", "a<f(b)", "1//0=:=A", "1+2>=3", "<(A,A)"} {
		if !impl.CompareGoal(mustRead(t, text)) {
			t.Errorf("CompareGoal(%s) = false", text)
		}
	}
	for _, text := range []string{"A=B", "A\\=B", "A==B", "A is B", "true", "fail", "var(A)", "arg(1,A,B)", "p", "p(1,2)", "A", "1", "[]", "[A,B]", "!", "a+b", "a mod b", "<", "<(A)", "<(1,2,3)", "=:=(1,2,3,4)", "f(1<2)", "(1<2)=A"} {
		if impl.CompareGoal(mustRead(t, text)) {
			t.Errorf("CompareGoal(%s) = true", text)
		}
	}
}

// slowCall solves a goal that is built in as the table says it, with bindings of any size. Variables can have any numbers.
func slowCall(goal impl.Term) ([]impl.Bind, int) {
	kids := goal.Kids
	switch goal.Name {
	case "true", "fail":
		return nil, failUnless(goal.Name == "true")
	case "=":
		return slowUnify(kids[0], kids[1])
	case "\\=":
		return nil, failUnless(!(&slowUnifier{}).unify(kids[0], kids[1]))
	case "==":
		return nil, failUnless(impl.TermSame(kids[0], kids[1]))
	case "var", "nonvar":
		return nil, failUnless((kids[0].Kind == impl.TermVar) == (goal.Name == "var"))
	case "atom":
		return nil, failUnless(kids[0].Name != "" && len(kids[0].Kids) == 0)
	case "int":
		return nil, failUnless(kids[0].Kind == impl.TermInt)
	case "is":
		n, code := slowValue(kids[1])
		if code != impl.CallTrue {
			return nil, code
		}
		return slowUnify(kids[0], number(n))
	case "arg":
		return slowArg(kids[0], kids[1], kids[2])
	}
	a, code := slowValue(kids[0])
	if code != impl.CallTrue {
		return nil, code
	}
	b, code := slowValue(kids[1])
	if code != impl.CallTrue {
		return nil, code
	}
	return nil, failUnless(map[string]bool{"<": a < b, ">": a > b, "=<": a <= b, ">=": a >= b, "=:=": a == b}[goal.Name])
}

func failUnless(holds bool) int {
	if holds {
		return impl.CallTrue
	}
	return impl.CallFail
}

func slowUnify(a impl.Term, b impl.Term) ([]impl.Bind, int) {
	u := &slowUnifier{}
	if !u.unify(a, b) {
		return nil, impl.CallFail
	}
	return u.answer(), impl.CallTrue
}

// limited returns what slowCall returned, or CallRange if a binding is too large.
func limited(binds []impl.Bind, code int) ([]impl.Bind, int) {
	if slices.ContainsFunc(binds, func(b impl.Bind) bool { return !impl.TermValid(b.Term) }) {
		return nil, impl.CallRange
	}
	return binds, code
}

func slowArg(place impl.Term, whole impl.Term, part impl.Term) ([]impl.Bind, int) {
	switch {
	case place.Kind == impl.TermVar || whole.Kind == impl.TermVar:
		return nil, impl.CallInst
	case place.Kind != impl.TermInt || len(whole.Kids) == 0:
		return nil, impl.CallType
	}
	for i, kid := range whole.Kids {
		if place.N == i+1 {
			return slowUnify(part, kid)
		}
	}
	return nil, impl.CallFail
}

// builtinGoals returns all goals that are built in with some terms as arguments.
func builtinGoals(parts []impl.Term) []impl.Term {
	var goals []impl.Term
	for name, arity := range builtinNames() {
		lists := [][]impl.Term{nil}
		for range arity {
			var longer [][]impl.Term
			for _, list := range lists {
				for _, part := range parts {
					longer = append(longer, append(slices.Clone(list), part))
				}
			}
			lists = longer
		}
		for _, list := range lists {
			goals = append(goals, structure(name, list...))
		}
	}
	return goals
}

// callParts returns terms of all kinds, of which two or three can be unified in many ways.
func callParts(t *testing.T) []impl.Term {
	return mustParseAll(t, "A", "B", "C", "0", "1", "2", "-1", "3", "a", "[]", "f(A)", "f(B)", "f(1)", "f(A,B)", "f(B,f(A))", "g(2,C)", "f(A,A)", "f(1,2)", "[A|B]", "[1,2]", "+(1,1)", "+(1,A)", "//(1,0)", "mod(3,-2)", "+(999,2)", "-(a,1)", "f(f(1),g(B,B),3,C)")
}

// TestCallBuiltinByTheTable compares the results for many goals with those of slowCall.
func TestCallBuiltinByTheTable(t *testing.T) {
	met := make([]int, len(codeNames))
	bound := 0
	for _, goal := range builtinGoals(callParts(t)) {
		want, code := limited(slowCall(goal))
		checkCall(t, goal, formatBinds(want), code)
		met[code]++
		bound += len(want)
	}
	for code, count := range met[:impl.CallRange+1] {
		if count < 100 {
			t.Errorf("only %d goals have the code %s", count, codeName(code))
		}
	}
	if bound < 400 {
		t.Errorf("only %d variables were bound", bound)
	}
}

// TestBindingsSolveTheirGoals checks that a goal holds without further bindings when its variables are
// replaced as the bindings say, which it does not if it bound less than it must.
func TestBindingsSolveTheirGoals(t *testing.T) {
	bound := 0
	for _, goal := range builtinGoals(callParts(t)) {
		binds, code := impl.CallBuiltin(goal)
		if code != impl.CallTrue {
			continue
		}
		if len(binds) > 0 && !slices.Contains([]string{"=", "is", "arg"}, goal.Name) {
			t.Errorf("CallBuiltin(%s) binds %s", impl.FormatTerm(goal), formatBinds(binds))
		}
		solved := mustApply(t, goal, binds)
		if len(binds) > 0 && !holdsAsItStands(solved) {
			t.Errorf("CallBuiltin(%s) binds %s, and %s does not hold", impl.FormatTerm(goal), formatBinds(binds), impl.FormatTerm(solved))
		}
		checkCall(t, solved, "", impl.CallTrue)
		bound += len(binds)
	}
	if bound < 400 {
		t.Errorf("only %d variables were bound", bound)
	}
}

// holdsAsItStands reports whether a goal of a name that can bind holds without bindings.
func holdsAsItStands(goal impl.Term) bool {
	kids := goal.Kids
	switch goal.Name {
	case "=":
		return impl.TermSame(kids[0], kids[1])
	case "is":
		n, code := slowValue(kids[1])
		return code == impl.CallTrue && impl.TermSame(kids[0], number(n))
	}
	place := kids[0].N
	return kids[0].Kind == impl.TermInt && place >= 1 && place <= len(kids[1].Kids) && impl.TermSame(kids[2], kids[1].Kids[place-1])
}

// TestGoalsBindNoMoreThanTheyMust tries many replacements of the variables of goals: each with which a goal
// holds must agree with its bindings, which it does not if the goal bound more than it must.
func TestGoalsBindNoMoreThanTheyMust(t *testing.T) {
	values := mustParseAll(t, "1", "2", "a", "C", "D", "f(1)", "f(C)", "f(f(1))", "[2]")
	parts := mustParseAll(t, "A", "B", "1", "2", "a", "f(A)", "f(B)", "f(1)", "f(A,B)", "f(B,A)", "f(1,2)", "f(2,A)", "[A|B]", "[1,2]", "+(1,1)", "f(f(A),B)")
	agreed := map[string]int{}
	for _, goal := range builtinGoals(parts) {
		if !slices.Contains([]string{"=", "is", "arg"}, goal.Name) {
			continue
		}
		binds, code := impl.CallBuiltin(goal)
		if code > impl.CallFail {
			continue
		}
		for _, x := range values {
			for _, y := range values {
				other := []impl.Bind{{N: 0, Term: x}, {N: 1, Term: y}}
				if holdsAsItStands(replaced(goal, other)) {
					agreed[goal.Name]++
					checkAgrees(t, goal, binds, code, other)
				}
			}
		}
	}
	for _, name := range []string{"=", "is", "arg"} {
		if agreed[name] < 100 {
			t.Errorf("only %d replacements made goals of %s hold", agreed[name], name)
		}
	}
}

// checkAgrees checks that bindings with which a goal holds are a special case of those that were returned for it.
func checkAgrees(t *testing.T, goal impl.Term, binds []impl.Bind, code int, other []impl.Bind) {
	t.Helper()
	if code != impl.CallTrue {
		t.Fatalf("CallBuiltin(%s) fails, but it holds with %s", impl.FormatTerm(goal), formatBinds(other))
	}
	for _, b := range binds {
		if !impl.TermSame(replaced(variable(b.N), other), replaced(b.Term, other)) {
			t.Fatalf("CallBuiltin(%s) binds %s, but it holds with %s, too", impl.FormatTerm(goal), formatBinds(binds), formatBinds(other))
		}
	}
}

// TestBindingsAtTheLimits has bindings that are as large as they can be, and larger by one.
func TestBindingsAtTheLimits(t *testing.T) {
	a, x, y := structure("a"), variable(0), variable(1)
	wide := func(extra ...impl.Term) impl.Term {
		return structure("t", structure("g", append([]impl.Term{y, y}, extra...)...), bush(59))
	}
	cases := []struct {
		name  string
		right impl.Term
		code  int
	}{
		{"119 nodes", wide(), impl.CallTrue},
		{"120 nodes", wide(a), impl.CallTrue},
		{"121 nodes", wide(a, a), impl.CallRange},
		{"a depth of 29", structure("t", structure("g", structure("g", y)), chain(27)), impl.CallTrue},
		{"a depth of 30", structure("t", structure("g", structure("g", structure("g", y))), chain(27)), impl.CallTrue},
		{"a depth of 31", structure("t", structure("g", structure("g", structure("g", structure("g", y)))), chain(27)), impl.CallRange},
	}
	left := structure("t", x, y)
	for _, c := range cases {
		for _, pair := range [][2]impl.Term{{left, c.right}, {c.right, left}} {
			goals := []impl.Term{
				structure("=", pair[0], pair[1]),
				structure("arg", number(1), structure("w", pair[0]), pair[1]),
				structure("arg", number(3), structure("w", a, a, pair[0]), pair[1]),
			}
			for _, goal := range goals {
				binds, code := impl.CallBuiltin(goal)
				if !impl.TermValid(goal) || code != c.code || code == impl.CallTrue && len(binds) != 2 || code != impl.CallTrue && len(binds) > 0 {
					t.Errorf("%s: CallBuiltin(%s) = %s, %s", c.name, impl.FormatTerm(goal), formatBinds(binds), codeName(code))
				}
			}
			// They can be unified, whatever the size of the bindings.
			checkCall(t, structure("\\=", pair[0], pair[1]), "", impl.CallFail)
			checkCall(t, structure("==", pair[0], pair[1]), "", impl.CallFail)
			// What cannot be unified is not too large.
			checkCall(t, structure("=", structure("u", pair[0], number(1)), structure("u", pair[1], number(2))), "", impl.CallFail)
			checkCall(t, structure("\\=", structure("u", pair[0], number(1)), structure("u", pair[1], number(2))), "", impl.CallTrue)
		}
	}
	checkCall(t, structure("=", variable(25), bush(impl.MaxNodes-2)), "Z="+impl.FormatTerm(bush(impl.MaxNodes-2)), impl.CallTrue)
	checkCall(t, structure("=", variable(25), bush(impl.MaxNodes-1)), "", impl.CallNone)
	checkCall(t, structure("=", variable(25), chain(impl.MaxDepth-1)), "Z="+impl.FormatTerm(chain(impl.MaxDepth-1)), impl.CallTrue)
	checkCall(t, structure("=", variable(25), chain(impl.MaxDepth)), "", impl.CallNone)
}

// TestBindingsThatGrow has goals in which variables stand for terms with more nodes than anything can visit.
func TestBindingsThatGrow(t *testing.T) {
	var left, right []impl.Term
	for n := range 16 {
		next := variable(n + 1)
		left, right = append(left, variable(n)), append(right, structure("f", next, next, next, next))
	}
	for range 2 {
		slices.Reverse(left)
		slices.Reverse(right)
		a, b := tuple(left...), tuple(right...)
		for name, code := range map[string]int{"=": impl.CallRange, "\\=": impl.CallFail, "==": impl.CallFail, "<": impl.CallType, "is": impl.CallType} {
			goal := structure(name, a, b)
			if !impl.TermValid(goal) {
				t.Fatalf("a goal of %d nodes is not valid", impl.CountNodes(goal))
			}
			inTime(t, func() { checkCall(t, goal, "", code) })
		}
		inTime(t, func() { checkCall(t, structure("arg", number(1), structure("f", a), b), "", impl.CallRange) })
	}
}

func TestCallsOfInvalidTerms(t *testing.T) {
	fine := []impl.Term{variable(0), number(1), structure("a"), structure("f", variable(0))}
	for name, bad := range invalidTerms() {
		terms := []impl.Term{bad}
		for _, x := range fine {
			for operator := range builtinNames() {
				terms = append(terms, structure(operator, bad), structure(operator, x, bad), structure(operator, bad, x), structure(operator, x, x, bad), structure(operator, x, bad, x), structure(operator, bad, x, x))
			}
			for _, operator := range []string{"+", "-", "*", "//", "mod", "f"} {
				terms = append(terms, structure(operator, x, bad), structure(operator, bad, x), structure(operator, structure("//", number(1), number(0)), bad))
			}
		}
		for _, x := range terms {
			if n, code := impl.EvalArith(x); n != 0 || code != impl.CallNone {
				t.Errorf("%s: EvalArith = %d, %s", name, n, codeName(code))
			}
			if binds, code := impl.CallBuiltin(x); len(binds) > 0 || code != impl.CallNone {
				t.Errorf("%s: CallBuiltin = %s, %s", name, formatBinds(binds), codeName(code))
			}
			if impl.CompareGoal(x) {
				t.Errorf("%s: CompareGoal = true", name)
			}
		}
	}
}

func TestCallsShareNoMemory(t *testing.T) {
	cases := map[string]string{
		"f(A,B,C)=f(g(h(1)),g(h(1)),A)":      "A=g(h(1)) B=g(h(1)) C=g(h(1))",
		"arg(2,f(0,t(A,g(B))),t(g(h(1)),A))": "A=g(h(1)) B=h(1)",
		"arg(1,f(g(h(1))),A)":                "A=g(h(1))",
		"A is 1+2":                           "A=3",
	}
	for text, want := range cases {
		goal := mustRead(t, text)
		before := impl.FormatTerm(goal)
		first, _ := impl.CallBuiltin(goal)
		second, _ := impl.CallBuiltin(goal)
		if got := impl.FormatTerm(goal); got != before {
			t.Errorf("CallBuiltin(%s) changes its argument to %s", text, got)
		}
		overwrite([]impl.Term{goal})
		if got := formatBinds(first); got != want {
			t.Errorf("CallBuiltin(%s) shares memory with its argument: %s", text, got)
		}
		for i := range first {
			overwrite(first[i].Term.Kids)
			rest := formatBinds(first[i+1:])
			if wanted := strings.Join(strings.Fields(want)[i+1:], " "); rest != wanted {
				t.Errorf("parts of the result of CallBuiltin(%s) share memory: %s", text, rest)
			}
		}
		first = first[:cap(first)]
		for i := range first {
			first[i] = impl.Bind{N: 77}
		}
		if got := formatBinds(second); got != want {
			t.Errorf("two results of CallBuiltin(%s) share memory: %s", text, got)
		}
	}
}

func TestCallsChangeNothing(t *testing.T) {
	for _, name := range []string{"=", "\\=", "==", "is", "<", ">", "=<", ">=", "=:=", "arg", "+", "mod"} {
		memory := []impl.Term{number(1), structure("+", variable(2), variable(1)), variable(9), number(7), number(8)}
		before := formatAll(memory)
		for from := range 3 {
			for to := from; to < 4; to++ {
				x := impl.Term{Kind: impl.TermStruct, Name: name, Kids: memory[from:to]}
				impl.CallBuiltin(x)
				impl.EvalArith(x)
				impl.CompareGoal(x)
			}
		}
		if got := formatAll(memory); got != before {
			t.Errorf("goals of %s change their arguments: %s", name, got)
		}
	}
}
