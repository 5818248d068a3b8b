package tests

import (
	"strconv"
	"strings"
	"testing"

	"loop.example/prologserver/impl"
)

// op is an operator as the document's table lists it.
type op struct {
	name  string
	text  string
	level int
}

func (o op) leftLevel() int {
	if o.level == 3 {
		return 2
	}
	return o.level
}

var ops = []op{
	{"=", "=", 3}, {"\\=", "\\=", 3}, {"==", "==", 3}, {"<", "<", 3}, {">", ">", 3}, {"=<", "=<", 3}, {">=", ">=", 3}, {"=:=", "=:=", 3},
	{"is", " is ", 3}, {"+", "+", 2}, {"-", "-", 2}, {"*", "*", 1}, {"//", "//", 1}, {"mod", " mod ", 1},
}

// mustRead returns the term that a text is written for, and checks what ReadFails says of it.
func mustRead(t *testing.T, text string) impl.Term {
	t.Helper()
	x, ok := impl.ReadTerm(text)
	at := impl.ReadFails(text)
	if !ok {
		t.Fatalf("ReadTerm(%q) finds no term; ReadFails = %d", text, at)
	}
	if !impl.TermValid(x) || at != -1 {
		t.Fatalf("ReadTerm(%q) = %v; ReadFails = %d", text, x, at)
	}
	return x
}

// checkFails checks that a text is not read, and where reading stops.
func checkFails(t *testing.T, text string, at int) {
	t.Helper()
	if x, ok := impl.ReadTerm(text); ok || !impl.TermSame(x, impl.Term{}) {
		t.Errorf("ReadTerm(%q) = %v, %v", text, x, ok)
	}
	if got := impl.ReadFails(text); got != at {
		t.Errorf("ReadFails(%q) = %d, not %d", text, got, at)
	}
}

// checkWritten checks that x is written as text, and that this is read back.
func checkWritten(t *testing.T, x impl.Term, text string) {
	t.Helper()
	if got := impl.WriteTerm(x); got != text {
		t.Errorf("WriteTerm(%s) = %q, not %q", impl.FormatTerm(x), got, text)
	}
	if back := mustRead(t, text); !impl.TermSame(back, x) {
		t.Errorf("ReadTerm(%q) = %s, not %s", text, impl.FormatTerm(back), impl.FormatTerm(x))
	}
}

func TestOpLevel(t *testing.T) {
	for _, o := range ops {
		level, left := impl.OpLevel(o.name)
		if level != o.level || left != (o.level < 3) {
			t.Errorf("OpLevel(%q) = %d, %v", o.name, level, left)
		}
	}
	for _, name := range []string{"", ".", "[]", "!", "a", "abcdefg", "A", "1", "(", ",", "|", ":-", "/", "\\", "=:", "=>", "<=", "===", "--", " is ", " is", "is ", "IS", "mod ", "+\x00"} {
		if level, left := impl.OpLevel(name); level != 0 || left {
			t.Errorf("OpLevel(%q) = %d, %v", name, level, left)
		}
	}
}

func TestTermsAreWritten(t *testing.T) {
	cases := map[string]string{
		"A": "A", "-7": "-7", "0": "0", "a": "a", "[]": "[]", ".": ".", "!": "!", "f(A,1)": "f(A,1)", "[a,B|c]": "[a,B|c]", "[](a)": "[](a)", ".(a)": ".(a)", ".(a,b,c)": ".(a,b,c)",
		"is(A,+(B,*(C,2)))": "A is B+C*2", "=:=(mod(A,2),0)": "A mod 2=:=0", "*(+(A,B),-(C,D))": "(A+B)*(C-D)", "+(*(A,B),//(C,D))": "A*B+C//D",
		"-(1,-(2,3))": "1-(2-3)", "-(-(1,2),3)": "1-2-3", "*(*(1,2),3)": "1*2*3", "*(1,*(2,3))": "1*(2*3)", "-(+(1,2),3)": "1+2-3", "+(1,-(2,3))": "1+(2-3)",
		"mod(//(A,B),C)": "A//B mod C", "//(A,mod(B,C))": "A//(B mod C)", "=(=(A,B),C)": "(A=B)=C", "=(A,=(B,C))": "A=(B=C)", "is(<(A,B),==(C,D))": "(A<B) is (C==D)",
		"+(=(A,B),C)": "(A=B)+C", "*(A,=(B,C))": "A*(B=C)", "f(=(A,B),is(C,D))": "f(A=B,C is D)", "[=(A,B),-(1,2)|+(C,1)]": "[A=B,1-2|C+1]",
		"=([-(1,2)],[])": "[1-2]=[]", "=(f(=(A,B)),g(+(1,2)))": "f(A=B)=g(1+2)", "[[=(A,B)],f([*(A,B)])]": "[[A=B],f([A*B])]", "=([A|B],[C|D])": "[A|B]=[C|D]",
		"-([a],[](b))": "[a]-[](b)", "=(A,*(+(B,C),D))": "A=(B+C)*D", "=(!,!)": "!=(!)", "==(.,.)": ".==(.)", "=(!,=)": "!=(=)", "-(.(a),.(a,b,c))": ".(a)-(.(a,b,c))",
	}
	for text, want := range cases {
		checkWritten(t, mustParse(t, text), want)
	}
}

// TestEveryOperatorInEveryOther puts each operation into each other one, on both sides.
func TestEveryOperatorInEveryOther(t *testing.T) {
	for _, outer := range ops {
		for _, inner := range ops {
			part := structure(inner.name, variable(0), number(1))
			text := "A" + inner.text + "1"
			left, right := "("+text+")", "("+text+")"
			if inner.level <= outer.leftLevel() {
				left = text
			}
			if inner.level < outer.level {
				right = text
			}
			checkWritten(t, structure(outer.name, part, structure("b")), left+outer.text+"b")
			checkWritten(t, structure(outer.name, structure("b"), part), "b"+outer.text+right)
			checkWritten(t, structure(outer.name, part, part), left+outer.text+right)
			// Without brackets, the same text is something else, or nothing.
			bare := "b" + outer.text + text
			x, ok := impl.ReadTerm(bare)
			if inner.level < outer.level {
				continue
			}
			want := structure(inner.name, structure(outer.name, structure("b"), variable(0)), number(1))
			if outer.level == 3 {
				checkFails(t, bare, len("b"+outer.text+"A"))
			} else if !ok || !impl.TermSame(x, want) {
				t.Errorf("ReadTerm(%q) = %s, %v", bare, impl.FormatTerm(x), ok)
			}
		}
	}
}

func TestOperatorsWithOtherArguments(t *testing.T) {
	a := structure("a")
	for _, o := range ops {
		atom := structure(o.name)
		bracketed := "(" + o.name + ")"
		checkWritten(t, atom, o.name)
		checkWritten(t, structure("f", atom, atom), "f("+o.name+","+o.name+")")
		checkWritten(t, structure(".", atom, structure(".", atom, atom)), "["+o.name+","+o.name+"|"+o.name+"]")
		for n := 1; n <= impl.MaxArity; n++ {
			x := structure(o.name)
			for range n {
				x.Kids = append(x.Kids, structure("a"))
			}
			text := o.name + "(" + strings.Repeat("a,", n-1) + "a)"
			if n == 2 {
				text = "a" + o.text + "a"
				// The structure can also be written as in chapter 1.
				if got := mustRead(t, o.name+"(a,a)"); !impl.TermSame(got, x) {
					t.Errorf("ReadTerm(%s(a,a)) = %s", o.name, impl.FormatTerm(got))
				}
			}
			checkWritten(t, x, text)
			checkWritten(t, structure("f", x), "f("+text+")")
			if n == 2 {
				continue
			}
			right := text
			if o.text == o.name {
				right = "(" + text + ")"
			}
			checkWritten(t, structure("=", x, x), text+"="+right)
			checkWritten(t, structure("*", x, x), text+"*"+right)
		}
		for _, outer := range ops {
			checkWritten(t, structure(outer.name, atom, a), bracketed+outer.text+"a")
			checkWritten(t, structure(outer.name, a, atom), "a"+outer.text+bracketed)
			checkWritten(t, structure(outer.name, atom, atom), bracketed+outer.text+bracketed)
		}
	}
}

func TestNegativeNumbers(t *testing.T) {
	for text, want := range map[string]string{
		"-(-1,2)": "-1-2", "-(1,-2)": "1-(-2)", "-(-1,-2)": "-1-(-2)", "+(A,-1)": "A+(-1)", "is(A,-999)": "A is (-999)", "mod(7,-3)": "7 mod (-3)", "=(-1,-1)": "-1=(-1)",
		"-(1,*(-2,3))": "1-(-2*3)", "=(A,-(-1,2))": "A=(-1-2)", "-(-(-1,-2),-3)": "-1-(-2)-(-3)", "f(-1,-(2,-3))": "f(-1,2-(-3))", "[-1|-2]": "[-1|-2]", "-(-1)": "-(-1)", "-(1)": "-(1)",
		"-(-(1),2)": "-(1)-2", "-(2,-(1))": "2-(-(1))", "-(-)": "-(-)", "-(-,1)": "(-)-1", "-(1,-)": "1-(-)", "*(-1,2)": "-1*2",
	} {
		checkWritten(t, mustParse(t, text), want)
	}
	for text, want := range map[string]string{
		"A--1": "-(A,-1)", "A+-1": "+(A,-1)", "A=-1": "=(A,-1)", "A=<-1": "=<(A,-1)", "A is -1": "is(A,-1)", "7 mod -3": "mod(7,-3)", "2*-3-1": "-(*(2,-3),1)", "1--2--3": "-(-(1,-2),-3)",
		"(-1)": "-1", "((-1))-(1)": "-(-1,1)", "f(-1)-1": "-(f(-1),1)", "[-1]-1": "-([-1],1)", "--1": "-(-,1)", "---1": "-(-,-1)", "+-1": "-(+,1)", "A-1": "-(A,1)", "a-1": "-(a,1)", "-(1)-1": "-(-(1),1)",
	} {
		if got := impl.FormatTerm(mustRead(t, text)); got != want {
			t.Errorf("ReadTerm(%q) = %s, not %s", text, got, want)
		}
	}
}

func TestSpacesOfOperators(t *testing.T) {
	for text, want := range map[string]string{
		"A is B": "is(A,B)", "a mod b mod c": "mod(mod(a,b),c)", "is is is": "is(is,is)", "mod mod mod": "mod(mod,mod)", "(A) is (B)": "is(A,B)", "is(A,B)": "is(A,B)", "mod(A) mod is(B)": "mod(mod(A),is(B))",
		"f(A is B)": "f(is(A,B))", "[A mod B]": "[mod(A,B)]", "A is B mod C": "is(A,mod(B,C))", "1 is -2": "is(1,-2)",
	} {
		if got := impl.FormatTerm(mustRead(t, text)); got != want {
			t.Errorf("ReadTerm(%q) = %s, not %s", text, got, want)
		}
	}
	for text, at := range map[string]int{
		"A is": 1, "A is ": 5, "A  is B": 1, "A is  B": 5, "A isB": 1, "A is(B)": 1, "Ais B": 1, "a mod": 1, "a mod ": 6, "amod b": 4, "a modb": 1, "a mod\tb": 1, "a\tmod b": 1, "a = b": 1, "a= b": 2, "a =b": 1, "a +b": 1,
		" a": 0, "a ": 1, "f( a)": 2, "f(a )": 3, "f(a, b)": 4, "[a ]": 2, "( a)": 1, "(a )": 2, "A is B is C": 6, "A is B ": 6, "A is B mod": 6, "A isis B": 1, "A modulo B": 1, "A is,B": 1, "(A is": 2, "f(A mod": 3,
	} {
		checkFails(t, text, at)
	}
}

func TestNamesThatBeginAlike(t *testing.T) {
	for _, o := range ops {
		if o.level == 3 {
			checkWritten(t, structure(o.name, variable(0), variable(1)), "A"+o.text+"B")
		}
	}
	for text, want := range map[string]string{
		"A=(<)": "=(A,<)", "A=<(<)": "=<(A,<)", "A=(=)": "=(A,=)", "A=(=(B))": "=(A,=(B))", "A==(B)": "==(A,B)", "A=:=(B)": "=:=(A,B)", "A=<(B)": "=<(A,B)", "A=(<(B))": "=(A,<(B))", "A>(=(B))": ">(A,=(B))", "A>=(B)": ">=(A,B)",
		"A===": "==(A,=)", "A====": "==(A,==)", "A==<": "==(A,<)", "A=>=": "=(A,>=)", "A<=": "<(A,=)", "A=\\=": "=(A,\\=)", "A=:==": "=:=(A,=)", "====": "", "===<": "", "==-1": "-(==,1)", "=<-=": "-(=<,=)",
		"//*//": "*(//,//)", "A//(*)": "//(A,*)", "A*//": "*(A,//)", "[]=[]": "=([],[])", "A=[]": "=(A,[])", "!==B": "==(!,B)", ".=.": "=(.,.)", "A=.": "=(A,.)", "A=!": "=(A,!)",
	} {
		if want == "" {
			checkFails(t, text, len(text))
		} else if got := impl.FormatTerm(mustRead(t, text)); got != want {
			t.Errorf("ReadTerm(%q) = %s, not %s", text, got, want)
		}
	}
}

func TestBrackets(t *testing.T) {
	for text, want := range map[string]string{
		"(A)": "A", "((a))": "a", "(1)": "1", "(A+B)": "+(A,B)", "((A=B))": "=(A,B)", "(A)+(B)": "+(A,B)", "((A)+(B))*((C))": "*(+(A,B),C)", "(A=B)=(C=D)": "=(=(A,B),=(C,D))",
		"f((A))": "f(A)", "f((A=B),(C))": "f(=(A,B),C)", "[(A),(B+1)|(C)]": "[A,+(B,1)|C]", "[a|(b=c)]": "[a|=(b,c)]", "([])": "[]", "([a])": "[a]", "(f(a))": "f(a)", "(-)": "-", "(-)(": "", "-((1))": "-(1)", "-((1,2))": "",
		"A-(1)": "-(A,1)", "A*(B)": "*(A,B)", "(.)": ".", "(!)": "!",
	} {
		if want == "" {
			if _, ok := impl.ReadTerm(text); ok {
				t.Errorf("ReadTerm accepts %q", text)
			}
		} else if got := impl.FormatTerm(mustRead(t, text)); got != want {
			t.Errorf("ReadTerm(%q) = %s, not %s", text, got, want)
		}
	}
}

// TestListsInOtherForms reads lists in forms that are not their text in chapter 1.
func TestListsInOtherForms(t *testing.T) {
	for text, want := range map[string]string{"[a|[b]]": "[a,b]", "[a|[]]": "[a]", "[a|([b|C])]": "[a,b|C]", ".(a,b)": "[a|b]", ".(a,[])": "[a]", ".(1+2,.(b,[]))": "[1+2,b]"} {
		if got := impl.WriteTerm(mustRead(t, text)); got != want {
			t.Errorf("ReadTerm(%q) is written %q, not %q", text, got, want)
		}
	}
}

func TestReadFails(t *testing.T) {
	cases := map[string]int{
		// A term must follow.
		"": 0, "A+": 2, "A=": 2, "A=:B": 2, "A*": 2, "A//": 3, "f(": 2, "f()": 2, "f(,a)": 2, "f(a,)": 4, "(": 1, "()": 1, "[": 1, "[,a]": 1, "[a,]": 3, "[a|]": 3, "[|a]": 1, "A+)": 2, "A+B*": 4, "A-(": 3,
		")": 0, "]": 0, "|": 0, ",": 0, "/": 0, "\\": 0, ":": 0, "\x00": 0, "\xff": 0, "_": 0, "é": 0, "f(\xff)": 2, "(A+,": 3, "[ ]": 1, "+(": 2, "[](": 3,
		// These do not begin a term.
		"1000": 0, "-1000": 0, "01": 0, "00": 0, "-0": 0, "-01": 0, "1+01": 2, "1+1000": 2, "A-01": 2, "A--01": 2, "f(1000)": 2, "[a,007]": 3, "99999999999999999999999": 0, "1-99999999999999999999999": 2, "A- 1": 2,
		"abcdefg": 0, "abcdefg(a)": 0, "A+abcdefg": 2, "f(a,abcdefgh)": 4, "[abcdefg]": 1, "(abcdefg)": 1,
		// A byte must follow.
		"f(A": 3, "f(A B)": 3, "f(a;b)": 3, "f(a|b)": 3, "f(a]": 3, "f(A=B=C)": 5, "(A": 2, "(A=B=C)": 4, "(A,B)": 2, "(a]": 2, "[A": 2, "[A)": 2, "[A B]": 2, "[a|b": 4, "[a|b,c]": 4, "[a|b|c]": 4, "[a,b": 4, "(A+B": 4, "f((a)": 5, "[A is": 2,
		// Another byte follows the written term.
		"A B": 1, "A=B=C": 3, "A + B": 1, "x)": 1, "AB": 1, "aB": 1, "a1": 1, "1a": 1, "1(a)": 1, "A(a)": 1, "a.": 1, "a!": 1, "A.B": 1, "a,b": 1, "[]]": 2, "[a][b]": 3, "(a)(b)": 3, "f(a)(b)": 4, "[a](b)": 3, "A=<B=<C": 4, "A+B=C+D=E": 7, "A+B)": 3,
		"A:-B": 1, "=:": 1, "///": 2, "A+-B": 3, "A=\\=B": 4, "A===B": 4, "A=>B": 3, "A<=B": 3, "==1": 2, "-=:": 2, "a(b)c": 4, "a\n": 1, "A/B": 1, "A\\B": 1, "f(a,b,c,d,e)f": 12, "A=B==C": 3, "!!": 1, "..": 1, "-A": 1, "-a": 1, "+1": 1, "A is B=C": 6,
		// Only the term is not valid.
		"f(a,b,c,d,e)": 12, "+(a,b,c,d,e)": 12, "(f(a,b,c,d,e))": 14, "A=f(a,b,c,d,e)+1": 16, "f(a,b,c,d,e": 11, "f(a,b,c,d,": 10,
		// The text is read.
		"a": -1, "A+1": -1, "-1": -1, "f(a,b,c,d)": -1, "999": -1, "-999": -1, "abcdef": -1,
	}
	for text, at := range cases {
		if at >= 0 {
			checkFails(t, text, at)
		} else {
			mustRead(t, text)
		}
	}
}

func TestTextsAtTheLimit(t *testing.T) {
	// Brackets do not make a term deeper.
	for text, want := range map[string]string{"abcd": "abcd", "1+2a": "", "A=<B": "=<(A,B)"} {
		inside := strings.Repeat("(", 498) + text + strings.Repeat(")", 498)
		if len(inside) != 1000 {
			t.Fatalf("a text of %d bytes", len(inside))
		}
		if want == "" {
			checkFails(t, inside, 501)
		} else if got := impl.FormatTerm(mustRead(t, inside)); got != want {
			t.Errorf("ReadTerm of 1000 bytes = %s, not %s", got, want)
		}
	}
	long := strings.Repeat("(", 498) + "abcde" + strings.Repeat(")", 498)
	checkFails(t, long, -1)
	checkFails(t, strings.Repeat("(", 1000), 1000)
	checkFails(t, strings.Repeat("(", 1001), -1)
	checkFails(t, strings.Repeat("a", 1000), 0)
	checkFails(t, strings.Repeat("a", 1001), -1)
	checkFails(t, strings.Repeat("1", 1000), 0)
	checkFails(t, "A"+strings.Repeat("+A", 499), 999)
	checkFails(t, strings.Repeat("[", 1<<20), -1)
	checkFails(t, strings.Repeat("f(", 500), 60)
}

func TestDepthAtTheLimit(t *testing.T) {
	f := func(n int, inside string) string {
		return strings.Repeat("f(", n) + inside + strings.Repeat(")", n)
	}
	list := func(n int, rest string) string {
		return "[" + strings.Repeat("a,", n-1) + "a" + rest + "]"
	}
	for _, text := range []string{
		f(29, "a"), f(29, "(a)"), f(29, "[]"), f(29, "-1"), f(28, "A+B"), f(28, "[a]"), f(28, "f((a))"), list(29, ""), list(29, "|A"), f(14, list(15, "")), strings.Repeat("[", 14) + f(15, "a") + strings.Repeat("]", 14),
		"A" + strings.Repeat("+1", 29), strings.Repeat("1-(", 28) + "A+B" + strings.Repeat(")", 28), f(27, "A=B+C"),
	} {
		x := mustRead(t, text)
		checkWritten(t, x, impl.WriteTerm(x))
	}
	cases := []struct {
		text string
		at   int
	}{
		{f(30, "a"), 60}, {f(30, "(a)"), 60}, {f(30, ""), 60}, {f(30, "1000"), 60}, {f(31, "a"), 60}, {"1+" + f(30, "a"), 62}, {"(" + f(30, "a") + ")", 61}, {f(28, "[a,b]"), 59}, {f(29, "[a]"), 59}, {f(29, "[a|b]"), 59},
		{f(29, "A+f(B)"), 62}, {list(30, ""), 59}, {list(40, ""), 59}, {list(30, "|A"), 59}, {strings.Repeat("[", 31) + strings.Repeat("]", 31), 30}, {f(15, list(15, "")), 59},
		// Operators are not counted when reading, and the term alone is not valid.
		{"A" + strings.Repeat("+1", 30), 61}, {f(29, "A+B"), 90}, {f(28, "A=B+C"), 89}, {"A+" + f(29, "a"), 90}, {f(29, "A+B") + ")", 90}, {list(29, "|A+B"), 63}, {strings.Repeat("1-(", 29) + "A+B" + strings.Repeat(")", 29), 119},
	}
	for _, c := range cases {
		checkFails(t, c.text, c.at)
	}
}

func TestNodesAtTheLimit(t *testing.T) {
	// A sum of 20 numbers has 39 nodes, so that f and three sums leave two nodes of 120.
	sum := "1" + strings.Repeat("+1", 19)
	three := "f(" + sum + "," + sum + "," + sum
	x := mustRead(t, three+",g(1))")
	if impl.CountNodes(x) != impl.MaxNodes {
		t.Errorf("%d nodes, not %d", impl.CountNodes(x), impl.MaxNodes)
	}
	checkWritten(t, x, three+",g(1))")
	for _, end := range []string{",1+1)", ",g(g(1)))", ",[1])"} {
		checkFails(t, three+end, len(three+end))
		checkFails(t, three+end+"+1=(2)", len(three+end+"+1=(2)"))
		checkFails(t, three+end+" a", len(three+end))
		checkFails(t, three+end[:len(end)-1], len(three+end)-1)
	}
}

// remainders returns a term with this number of numbers, and an operator between each two.
func remainders(numbers int) impl.Term {
	if numbers == 1 {
		return number(-impl.MaxInt)
	}
	return structure("mod", remainders(numbers/2), remainders(numbers-numbers/2))
}

// TestLongestTexts writes terms whose texts are as long as they can be, which must be read back.
func TestLongestTexts(t *testing.T) {
	leaf := structure("abcdef")
	long := structure("abcdef", leaf, leaf, leaf, leaf)
	for i := range long.Kids {
		for range 28 {
			long.Kids[i] = structure("abcdef", long.Kids[i])
		}
	}
	for _, x := range []impl.Term{long, remainders(60)} {
		if !impl.TermValid(x) {
			t.Fatalf("a term of %d nodes is not valid", impl.CountNodes(x))
		}
		checkWritten(t, x, impl.WriteTerm(x))
		mustParse(t, impl.FormatTerm(x))
	}
	if n := len(impl.WriteTerm(long)); n < 900 {
		t.Errorf("the longest text has %d bytes only", n)
	}
}

func TestWriteTermOfInvalidTerms(t *testing.T) {
	for what, x := range invalidTerms() {
		if got := impl.WriteTerm(x); got != "" {
			t.Errorf("WriteTerm of %s = %q", what, got)
		}
		if got := impl.WriteTerm(structure("+", number(1), x)); got != "" {
			t.Errorf("WriteTerm of 1 and %s = %q", what, got)
		}
	}
}

// operations returns a term in which most structures are operations.
func (s *source) operations(depth int) impl.Term {
	if depth == 0 || s.below(6) == 0 {
		return s.term(min(depth, 2))
	}
	name := ops[s.below(len(ops))].name
	if s.below(6) == 0 {
		return structure(name, s.operations(depth-1))
	}
	return structure(name, s.operations(depth-1), s.operations(depth-1))
}

func TestWrittenTermsAreReadBack(t *testing.T) {
	s := source{state: 2}
	valid := 0
	texts := map[string]impl.Term{}
	for i := range 30000 {
		x := s.operations(s.below(6))
		if i%3 == 0 {
			x = s.term(s.below(7))
		}
		text := impl.WriteTerm(x)
		if !impl.TermValid(x) {
			if text != "" {
				t.Fatalf("WriteTerm of a term that is not valid = %q", text)
			}
			continue
		}
		valid++
		if back, ok := impl.ReadTerm(text); !ok || !impl.TermSame(back, x) {
			t.Fatalf("WriteTerm(%s) = %q is read as %s, %v, and fails at %d", impl.FormatTerm(x), text, impl.FormatTerm(back), ok, impl.ReadFails(text))
		}
		if other, ok := texts[text]; ok && !impl.TermSame(other, x) {
			t.Fatalf("two terms are written as %q", text)
		}
		texts[text] = x
		// The text of chapter 1 is a written term, too.
		if back, ok := impl.ReadTerm(impl.FormatTerm(x)); !ok || !impl.TermSame(back, x) {
			t.Fatalf("ReadTerm(%q) = %s, %v", impl.FormatTerm(x), impl.FormatTerm(back), ok)
		}
	}
	if valid < 15000 {
		t.Errorf("only %d terms were valid", valid)
	}
}

// grammar derives terms from parts of a text by trying each place for an operator or a comma,
// as the document defines written terms.
type grammar struct {
	text string
	memo map[[3]int]derived
}

type derived struct {
	term impl.Term
	ok   bool
}

// longestName returns the longest name that stands at a place.
func (g *grammar) longestName(at int) string {
	for end := min(len(g.text), at+10); end > at; end-- {
		name := g.text[at:end]
		letter := end < len(g.text) && g.text[end] >= 'a' && g.text[end] <= 'z'
		if impl.NameValid(name) && !(letter && name[0] >= 'a' && name[0] <= 'z') {
			return name
		}
	}
	return ""
}

func (g *grammar) level(level int, from int, to int) (impl.Term, bool) {
	if from >= to {
		return impl.Term{}, false
	}
	key := [3]int{level, from, to}
	d, known := g.memo[key]
	if !known {
		d.term, d.ok = g.derive(level, from, to)
		g.memo[key] = d
	}
	return d.term, d.ok
}

func (g *grammar) derive(level int, from int, to int) (impl.Term, bool) {
	if level == 0 {
		return g.lowest(from, to)
	}
	if x, ok := g.level(level-1, from, to); ok {
		return x, true
	}
	for at := from + 1; at < to; at++ {
		for _, o := range ops {
			space := 0
			if o.text != o.name {
				space = 1
			}
			behind := at + len(o.text)
			if o.level != level || behind >= to || g.text[at:behind] != o.text || g.longestName(at+space) != o.name {
				continue
			}
			left, ok := g.level(o.leftLevel(), from, at)
			right, fine := g.level(level-1, behind, to)
			if ok && fine {
				return structure(o.name, left, right), true
			}
		}
	}
	return impl.Term{}, false
}

func (g *grammar) lowest(from int, to int) (impl.Term, bool) {
	part := g.text[from:to]
	if len(part) == 1 && part[0] >= 'A' && part[0] <= 'Z' {
		return variable(int(part[0] - 'A')), true
	}
	if n, err := strconv.Atoi(part); err == nil && strconv.Itoa(n) == part && n >= -impl.MaxInt && n <= impl.MaxInt {
		return number(n), true
	}
	name := g.longestName(from)
	switch last := part[len(part)-1]; {
	case name == part:
		return structure(name), true
	case part[0] == '(' && last == ')':
		return g.level(3, from+1, to-1)
	case name != "" && strings.HasPrefix(part, name+"(") && last == ')':
		kids, ok := g.parts(from+len(name)+1, to-1)
		return structure(name, kids...), ok
	case name == "" && part[0] == '[' && last == ']':
		return g.list(from+1, to-1)
	}
	return impl.Term{}, false
}

// parts derives terms of the level 3 that are separated by commas.
func (g *grammar) parts(from int, to int) ([]impl.Term, bool) {
	if x, ok := g.level(3, from, to); ok {
		return []impl.Term{x}, true
	}
	for at := from + 1; at < to; at++ {
		if g.text[at] != ',' {
			continue
		}
		first, ok := g.level(3, from, at)
		others, fine := g.parts(at+1, to)
		if ok && fine {
			return append([]impl.Term{first}, others...), true
		}
	}
	return nil, false
}

func (g *grammar) list(from int, to int) (impl.Term, bool) {
	nothing := structure("[]")
	items, ok := g.parts(from, to)
	if ok {
		return impl.MakeList(items, nothing)
	}
	for at := from + 1; at < to; at++ {
		if g.text[at] != '|' {
			continue
		}
		items, ok := g.parts(from, at)
		tail, fine := g.level(3, at+1, to)
		if ok && fine {
			return impl.MakeList(items, tail)
		}
	}
	return impl.Term{}, false
}

// combine calls check with all texts of up to this many of some parts.
func combine(parts []string, most int, check func(text string)) {
	texts := []string{""}
	for range most {
		var longer []string
		for _, text := range texts {
			for _, part := range parts {
				longer = append(longer, text+part)
			}
		}
		for _, text := range longer {
			check(text)
		}
		texts = longer
	}
}

// TestReadTermByTheGrammar compares what is read from many texts with what the grammar derives.
func TestReadTermByTheGrammar(t *testing.T) {
	read := 0
	check := func(text string) {
		g := grammar{text: text, memo: map[[3]int]derived{}}
		want, derives := g.level(3, 0, len(text))
		if !impl.TermValid(want) {
			want, derives = impl.Term{}, false
		}
		got, ok := impl.ReadTerm(text)
		if ok != derives || ok && !impl.TermSame(got, want) {
			t.Fatalf("ReadTerm(%q) = %s, %v, not %s, %v", text, impl.FormatTerm(got), ok, impl.FormatTerm(want), derives)
		}
		if ok {
			read++
		}
	}
	combine([]string{"A", "-", "1", "=", "<", ":", "*", "/", "(", ")", "a"}, 5, check)
	combine([]string{"A", "f(", ")", ",", "[", "]", "|", "-", "=", "("}, 5, check)
	combine([]string{"A", "is", "mod", " ", "(", ")", "+", "0"}, 5, check)
	combine([]string{"A", "1", "+", "-", "*", "=", "==", " is ", " mod "}, 5, check)
	s := source{state: 3}
	for range 20000 {
		text := []byte(impl.WriteTerm(s.operations(s.below(4))))
		if len(text) > 0 && len(text) < 60 {
			text[s.below(len(text))] = "A-1=<*()[], a"[s.below(13)]
			check(string(text))
		}
	}
	if read < 10000 {
		t.Errorf("only %d texts were read", read)
	}
}

// TestReadingStopsInTime checks that reading goes on as long as a text can become one that is read, and no longer.
func TestReadingStopsInTime(t *testing.T) {
	begins := map[string]bool{}
	parts := []string{"A", "-", "1", "=", "<", "*", "(", ")", "f", "[", "]", ",", "|"}
	combine(parts, 5, func(text string) {
		if _, ok := impl.ReadTerm(text); ok {
			for end := range len(text) + 1 {
				begins[text[:end]] = true
			}
		}
	})
	combine(parts, 5, func(text string) {
		at := impl.ReadFails(text)
		if _, ok := impl.ReadTerm(text); ok || strings.Contains(text, "1111") {
			return
		}
		if at < 0 || at > len(text) {
			t.Fatalf("ReadFails(%q) = %d", text, at)
		}
		if at < len(text) && begins[text[:at+1]] {
			t.Fatalf("ReadFails(%q) = %d, but a text that is read begins so", text, at)
		}
		if !completes(text[:at]) {
			t.Fatalf("ReadFails(%q) = %d, but no text that is read begins so", text, at)
		}
	})
}

// completes reports whether a text becomes one that is read by closing its brackets, maybe behind an A.
func completes(text string) bool {
	var closing string
	for i := 0; i < len(text); i++ {
		switch {
		case strings.HasPrefix(text[i:], "[]"):
			i++
		case text[i] == '(':
			closing = ")" + closing
		case text[i] == '[':
			closing = "]" + closing
		case text[i] == ')' || text[i] == ']':
			closing = closing[1:]
		}
	}
	for _, end := range []string{"", "A"} {
		if _, ok := impl.ReadTerm(text + end + closing); ok {
			return true
		}
	}
	return false
}

func TestReadTermsShareNoMemory(t *testing.T) {
	const text = "f(A+1,[A+1|A+1])=f(A+1,A+1)"
	x, y := mustRead(t, text), mustRead(t, text)
	overwrite([]impl.Term{x.Kids[0].Kids[0]})
	if got := impl.WriteTerm(x); got != "f(77+77,[A+1|A+1])=f(A+1,A+1)" {
		t.Errorf("parts of a result share memory: %q", got)
	}
	overwrite(x.Kids[0].Kids)
	if got := impl.WriteTerm(x.Kids[1]); got != "f(A+1,A+1)" {
		t.Errorf("parts of a result share memory: %q", got)
	}
	overwrite(x.Kids)
	if got := impl.WriteTerm(y); got != text {
		t.Errorf("two results share memory: %q", got)
	}
}

func TestWriteTermChangesNothing(t *testing.T) {
	memory := []impl.Term{structure("-", number(1), number(2)), number(-3), number(7)}
	x := impl.Term{Kind: impl.TermStruct, Name: "-", Kids: memory[:2]}
	if got := impl.WriteTerm(x); got != "1-2-(-3)" {
		t.Errorf("WriteTerm = %q", got)
	}
	if got := formatAll(memory); got != "-(1,2) -3 7" {
		t.Errorf("an argument was changed: %s", got)
	}
}
