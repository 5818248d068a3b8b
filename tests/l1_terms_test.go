package tests

import (
	"slices"
	"strings"
	"testing"

	"loop.example/prologserver/impl"
)

// mustParse returns the term with a text, and checks that it is read back.
func mustParse(t *testing.T, text string) impl.Term {
	t.Helper()
	x, ok := impl.ParseTerm(text)
	if !ok {
		t.Fatalf("ParseTerm(%q) finds no term", text)
	}
	if back := impl.FormatTerm(x); back != text {
		t.Fatalf("ParseTerm(%q) is formatted as %q", text, back)
	}
	return x
}

func mustParseAll(t *testing.T, texts ...string) []impl.Term {
	t.Helper()
	list := make([]impl.Term, len(texts))
	for i, text := range texts {
		list[i] = mustParse(t, text)
	}
	return list
}

func formatAll(list []impl.Term) string {
	texts := make([]string, len(list))
	for i, x := range list {
		texts[i] = impl.FormatTerm(x)
	}
	return strings.Join(texts, " ")
}

func variable(n int) impl.Term {
	return impl.Term{Kind: impl.TermVar, N: n}
}

func number(n int) impl.Term {
	return impl.Term{Kind: impl.TermInt, N: n}
}

func structure(name string, kids ...impl.Term) impl.Term {
	return impl.Term{Kind: impl.TermStruct, Name: name, Kids: kids}
}

// chain returns a term of this depth, of structures with one argument.
func chain(depth int) impl.Term {
	x := structure("a")
	for range depth - 1 {
		x = structure("f", x)
	}
	return x
}

// bush returns a term with this number of nodes, of little depth.
func bush(nodes int) impl.Term {
	x := structure("f")
	left := nodes - 1
	for places := impl.MaxArity; places > 0 && left > 0; places-- {
		share := (left + places - 1) / places
		x.Kids = append(x.Kids, bush(share))
		left -= share
	}
	return x
}

// selfContaining returns a term that is its own argument.
func selfContaining(name string) impl.Term {
	kids := make([]impl.Term, 1)
	x := structure(name, kids...)
	kids[0] = x
	return x
}

// invalidTerms returns terms that are not valid, by what is wrong with them.
func invalidTerms() map[string]impl.Term {
	atom := structure("a")
	bad := map[string]impl.Term{
		"the zero value":           {},
		"the kind 4":               {Kind: 4},
		"the kind -1":              {Kind: -1, Name: "a"},
		"the variable 26":          variable(impl.MaxVar + 1),
		"the variable -1":          variable(-1),
		"a variable with a name":   {Kind: impl.TermVar, Name: "a"},
		"a variable with kids":     {Kind: impl.TermVar, Kids: []impl.Term{atom}},
		"the number 1000":          number(impl.MaxInt + 1),
		"the number -1000":         number(-impl.MaxInt - 1),
		"a number with a name":     {Kind: impl.TermInt, Name: "a"},
		"a number with kids":       {Kind: impl.TermInt, Kids: []impl.Term{atom}},
		"an atom with a number":    {Kind: impl.TermStruct, Name: "a", N: 1},
		"an atom without a name":   structure(""),
		"a name of 7 letters":      structure("abcdefg"),
		"an uppercase name":        structure("A"),
		"a name with a digit":      structure("a1"),
		"a sign that is no name":   structure("==="),
		"a name with a newline":    structure("a\n"),
		"5 arguments":              structure("f", atom, atom, atom, atom, atom),
		"too many nodes":           bush(impl.MaxNodes + 1),
		"too much depth":           chain(impl.MaxDepth + 1),
		"an argument of itself":    selfContaining("f"),
		"a list in itself":         structure(".", atom, selfContaining("f")),
		"a list with a wrong rest": structure(".", atom, impl.Term{}),
	}
	for _, name := range []string{"the zero value", "the variable 26", "the number 1000", "an uppercase name"} {
		bad[name+" as an argument"] = structure("g", atom, bad[name])
	}
	return bad
}

func TestNameValid(t *testing.T) {
	signs := []string{"+", "-", "*", "//", "=", "\\=", "==", "<", ">", "=<", ">=", "=:=", ".", "[]", "!"}
	for _, s := range append(signs, "a", "z", "is", "mod", "abcdef") {
		if !impl.NameValid(s) {
			t.Errorf("NameValid(%q) = false", s)
		}
	}
	invalid := []string{"", "abcdefg", "A", "aB", "a1", "1", "a ", " a", "/", "\\", ":", "=:", ":=", "<=", "=>", "[", "]", "[]a",
		"===", "--", "+-", "..", "!!", "[][]", "a+", "+a", "=\\=", "|", ",", "(", "a\x00", "é", "\xff", "-1", "////", ":-", "`", "{"}
	for _, s := range invalid {
		if impl.NameValid(s) {
			t.Errorf("NameValid(%q) = true", s)
		}
	}
	for b := range 256 {
		s := string([]byte{byte(b)})
		want := b >= 'a' && b <= 'z' || slices.Contains(signs, s)
		if impl.NameValid(s) != want {
			t.Errorf("NameValid(%q) = %v", s, !want)
		}
	}
}

func TestTermValidAtItsLimits(t *testing.T) {
	atom := structure("a")
	valid := []impl.Term{
		variable(0), variable(impl.MaxVar),
		number(0), number(impl.MaxInt), number(-impl.MaxInt),
		structure("abcdef"), structure("f", atom, atom, atom, atom),
		structure("[]", atom), structure(".", atom), structure(".", atom, atom, atom), structure("-", number(5)),
		{Kind: impl.TermStruct, Name: "a", Kids: []impl.Term{}},
		{Kind: impl.TermVar, Kids: []impl.Term{}},
		bush(impl.MaxNodes), chain(impl.MaxDepth),
	}
	for _, x := range valid {
		if !impl.TermValid(x) {
			t.Errorf("TermValid(%v) = false", x)
		}
		text := impl.FormatTerm(x)
		back, ok := impl.ParseTerm(text)
		if !ok || !impl.TermSame(back, x) {
			t.Errorf("ParseTerm(%q) = %v, %v, not %v", text, back, ok, x)
		}
	}
	if n := impl.CountNodes(bush(impl.MaxNodes)); n != impl.MaxNodes {
		t.Errorf("CountNodes = %d at the limit", n)
	}
	if n := impl.CountNodes(chain(impl.MaxDepth)); n != impl.MaxDepth {
		t.Errorf("CountNodes = %d at the greatest depth", n)
	}
}

func TestInvalidTerms(t *testing.T) {
	fine := structure("a")
	for name, x := range invalidTerms() {
		if impl.TermValid(x) {
			t.Errorf("%s: TermValid = true", name)
		}
		if text := impl.FormatTerm(x); text != "" {
			t.Errorf("%s: FormatTerm = %q", name, text)
		}
		if vars := impl.TermVars(x); len(vars) != 0 {
			t.Errorf("%s: TermVars = %v", name, vars)
		}
		if n := impl.CountNodes(x); n != 0 {
			t.Errorf("%s: CountNodes = %d", name, n)
		}
		if c := impl.CompareTerms(x, fine) | impl.CompareTerms(fine, x) | impl.CompareTerms(x, x); c != 0 {
			t.Errorf("%s: CompareTerms = %d", name, c)
		}
		if list, ok := impl.RenumberTerms([]impl.Term{fine, x}); ok || len(list) != 0 {
			t.Errorf("%s: RenumberTerms = %v, %v", name, list, ok)
		}
		if list, ok := impl.ListOf(x); ok || len(list) != 0 {
			t.Errorf("%s: ListOf = %v, %v", name, list, ok)
		}
		if l, ok := impl.MakeList([]impl.Term{fine, x}, structure("[]")); ok || !impl.TermSame(l, impl.Term{}) {
			t.Errorf("%s: MakeList = %v, %v with it as an element", name, l, ok)
		}
		if l, ok := impl.MakeList([]impl.Term{fine}, x); ok || !impl.TermSame(l, impl.Term{}) {
			t.Errorf("%s: MakeList = %v, %v with it as the tail", name, l, ok)
		}
	}
}

func TestTermSame(t *testing.T) {
	texts := []string{"A", "B", "0", "1", "-1", "a", "b", "f(A)", "f(B)", "f(1)", "f(a)", "f(a,b)", "f(b,a)", "g(a)", "[]", "[a]", "[a|B]", "-", "-(1)"}
	for i, x := range mustParseAll(t, texts...) {
		for k, y := range mustParseAll(t, texts...) {
			if impl.TermSame(x, y) != (i == k) {
				t.Errorf("TermSame(%s, %s) = %v", texts[i], texts[k], i != k)
			}
		}
	}
	if !impl.TermSame(impl.Term{}, impl.Term{Kids: []impl.Term{}}) {
		t.Error("TermSame tells nil Kids from empty ones")
	}
	bad := []impl.Term{{}, {Kind: 1, N: 99}, {Kind: 1, Name: "a"}, {Kind: 9}, {Kind: 3, Name: "a", N: 1}, {Name: "a"}, {Kids: []impl.Term{{}}}, {Kids: []impl.Term{{Kids: []impl.Term{{}}}}}}
	for i, x := range bad {
		for k, y := range bad {
			if impl.TermSame(x, y) != (i == k) {
				t.Errorf("TermSame(%v, %v) = %v", x, y, i != k)
			}
		}
	}
}

func TestTermSameOfLargeTerms(t *testing.T) {
	if !impl.TermSame(chain(200000), chain(200000)) || impl.TermSame(chain(200000), chain(200001)) {
		t.Error("TermSame is wrong for deep terms")
	}
	if !impl.TermSame(selfContaining("f"), selfContaining("f")) || impl.TermSame(selfContaining("f"), selfContaining("g")) {
		t.Error("TermSame is wrong for terms that contain themselves")
	}
	if impl.TermSame(selfContaining("f"), chain(1000)) {
		t.Error("TermSame takes a finite term for one that contains itself")
	}
	doubled := func(leaf string) impl.Term {
		x := structure(leaf)
		for range 100 {
			x = structure("f", x, x)
		}
		return x
	}
	if !impl.TermSame(doubled("a"), doubled("a")) || impl.TermSame(doubled("a"), doubled("b")) {
		t.Error("TermSame is wrong for terms whose parts are shared")
	}
}

func TestFormatTerm(t *testing.T) {
	a, b, nothing := structure("a"), structure("b"), structure("[]")
	cases := []struct {
		term impl.Term
		want string
	}{
		{variable(0), "A"}, {variable(25), "Z"},
		{number(0), "0"}, {number(999), "999"}, {number(-999), "-999"},
		{number(-5), "-5"}, {structure("-", number(5)), "-(5)"}, {structure("-", number(-5)), "-(-5)"},
		{structure("-"), "-"}, {structure("-", number(-1), number(2)), "-(-1,2)"},
		{nothing, "[]"}, {structure("[]", a), "[](a)"}, {structure("."), "."},
		{structure(".", a), ".(a)"}, {structure(".", a, b, a), ".(a,b,a)"},
		{structure(".", a, nothing), "[a]"}, {structure(".", a, b), "[a|b]"},
		{structure(".", a, variable(1)), "[a|B]"}, {structure(".", a, number(-1)), "[a|-1]"},
		{structure(".", a, structure(".", b, nothing)), "[a,b]"},
		{structure(".", a, structure(".", b, variable(2))), "[a,b|C]"},
		{structure(".", structure(".", a, nothing), structure(".", b, a)), "[[a],b|a]"},
		{structure(".", nothing, nothing), "[[]]"},
		{structure(".", a, structure("[]", b)), "[a|[](b)]"},
		{structure(".", a, structure(".", b)), "[a|.(b)]"},
		{structure(".", a, structure(".")), "[a|.]"},
		{structure("f", structure(".", a, nothing), structure("=", variable(0), a)), "f([a],=(A,a))"},
	}
	for _, c := range cases {
		if got := impl.FormatTerm(c.term); got != c.want {
			t.Errorf("FormatTerm(%v) = %q, not %q", c.term, got, c.want)
		}
		if back := mustParse(t, c.want); !impl.TermSame(back, c.term) {
			t.Errorf("ParseTerm(%q) = %v, not %v", c.want, back, c.term)
		}
	}
}

func TestParseTermOfSigns(t *testing.T) {
	for _, s := range []string{"+", "-", "*", "//", "=", "\\=", "==", "<", ">", "=<", ">=", "=:=", ".", "[]", "!"} {
		for _, text := range []string{s, s + "(A)", "f(" + s + "," + s + "(" + s + "))", "[" + s + "]", "[" + s + "|" + s + "(a)]"} {
			mustParse(t, text)
		}
		if x := mustParse(t, s+"("+s+")"); x.Name != s || x.Kids[0].Name != s {
			t.Errorf("ParseTerm takes %q for %q", x.Name, s)
		}
	}
}

func TestParseTermRefuses(t *testing.T) {
	texts := []string{
		"", " ", "a ", " a", "a\n", "f(a, b)", "é", "\xff", "a\x00", "_", "a1", "Aa", "AB", "A(a)", "aA",
		"00", "01", "-0", "-00", "-01", "1000", "-1000", "99999999999999999999999", "-99999999999999999999999", "+1", "1a", "1(a)", "--1", "- 1", "0x1", "1.5",
		"-5(1)", "-A", "-a", "-(", "-()", "a(", "a()", "a(a", "a(a,", "a(a,)", "a(,a)", "a)", "(a)", "(", ")", ",", "a,b",
		"f(a,b,c,d,e)", "abcdefg", "f(abcdefg)", "===", "=:", "/", "\\", ":-", "=(", "a=b", "a-1",
		"[", "]", "[a", "[a,", "[a,]", "[,a]", "[a|", "[a|]", "[|a]", "[a|b", "[a|b,c]", "[a|b|c]", "[a]]", "[a](b)", "[ ]",
		"[a|[]]", "[a|[b]]", "[a|[b|c]]", ".(a,b)", ".(a,[])", "[a|.(b,c)]", "f(.(a,b))", "[](", "[]()", "[][]",
	}
	for _, text := range texts {
		if x, ok := impl.ParseTerm(text); ok || !impl.TermSame(x, impl.Term{}) {
			t.Errorf("ParseTerm(%q) = %v, %v", text, x, ok)
		}
	}
}

func TestParseTermAtTheLimits(t *testing.T) {
	nested := func(depth int) string {
		return strings.Repeat("f(", depth-1) + "a" + strings.Repeat(")", depth-1)
	}
	listOf := func(n int) string {
		return "[" + strings.Repeat("a,", n-1) + "a]"
	}
	for _, text := range []string{"Z", "999", "-999", "f(a,b,c,d)", "abcdef", nested(30), listOf(29), "[" + nested(29) + "]", "[a|" + nested(29) + "]"} {
		mustParse(t, text)
	}
	long := []string{
		"f(" + nested(30) + ")", listOf(30), "[" + nested(30) + "]", "[a|" + nested(30) + "]",
		strings.Repeat("[", 40000) + strings.Repeat("]", 40000), nested(100000), listOf(100000),
		strings.Repeat("f(", 100000), strings.Repeat("a", 100000), strings.Repeat("1", 100000),
	}
	for _, text := range long {
		if _, ok := impl.ParseTerm(text); ok {
			t.Errorf("ParseTerm accepts a text of %d bytes", len(text))
		}
	}
	// A list of n atoms has 2n+1 nodes: f and three lists of 19 leave two nodes of 120.
	three := "f(" + listOf(19) + "," + listOf(19) + "," + listOf(19)
	if x := mustParse(t, three+",g(a))"); impl.CountNodes(x) != impl.MaxNodes {
		t.Errorf("CountNodes = %d, not %d", impl.CountNodes(x), impl.MaxNodes)
	}
	if _, ok := impl.ParseTerm(three + ",g(a,a))"); ok {
		t.Error("ParseTerm accepts a term with 121 nodes")
	}
}

// TestShortTexts tries all short texts of some bytes: what is accepted must be the text of a valid term.
func TestShortTexts(t *testing.T) {
	const bytes = "aB0-=<[]|,(."
	texts := []string{""}
	accepted := 0
	for range 5 {
		var longer []string
		for _, text := range texts {
			for i := range len(bytes) {
				longer = append(longer, text+bytes[i:i+1])
			}
		}
		texts = longer
		for _, text := range texts {
			for _, s := range []string{text, text + ")", "[" + text + "]"} {
				x, ok := impl.ParseTerm(s)
				if ok && (!impl.TermValid(x) || impl.FormatTerm(x) != s) {
					t.Errorf("ParseTerm(%q) is formatted as %q", s, impl.FormatTerm(x))
				}
				if ok {
					accepted++
				}
			}
		}
	}
	if accepted < 1000 {
		t.Errorf("ParseTerm accepts %d texts only", accepted)
	}
}

// source returns terms that look random and are always the same.
type source struct {
	state uint32
}

func (s *source) below(n int) int {
	s.state = s.state*1664525 + 1013904223
	return int(s.state>>8) % n
}

func (s *source) term(depth int) impl.Term {
	names := []string{"a", "b", "abcdef", "is", "+", "-", "*", "//", "=", "\\=", "==", "<", ">", "=<", ">=", "=:=", ".", "[]", "!"}
	kind := s.below(8)
	switch {
	case kind == 0:
		return variable(s.below(impl.MaxVar + 1))
	case kind == 1:
		return number(s.below(2*impl.MaxInt+1) - impl.MaxInt)
	case depth == 0:
		return structure(names[s.below(len(names))])
	case kind < 4:
		return structure(".", s.term(depth-1), s.term(depth-1))
	}
	x := structure(names[s.below(len(names))])
	for range s.below(impl.MaxArity + 1) {
		x.Kids = append(x.Kids, s.term(depth-1))
	}
	return x
}

func TestTermsAreReadBack(t *testing.T) {
	s := source{state: 1}
	valid := 0
	for range 20000 {
		x := s.term(s.below(7))
		text := impl.FormatTerm(x)
		if !impl.TermValid(x) {
			if text != "" {
				t.Fatalf("FormatTerm of a term that is not valid = %q", text)
			}
			continue
		}
		valid++
		if back, ok := impl.ParseTerm(text); !ok || !impl.TermSame(back, x) {
			t.Fatalf("ParseTerm(%q) = %v, %v, not %v", text, back, ok, x)
		}
	}
	if valid < 10000 {
		t.Errorf("only %d terms were valid", valid)
	}
}

func TestTermVars(t *testing.T) {
	cases := []struct {
		text string
		want []int
	}{
		{"a", nil}, {"5", nil}, {"[]", nil}, {"Z", []int{25}}, {"f(C,g(A,C),B,A)", []int{2, 0, 1}}, {"[B,A|B]", []int{1, 0}}, {"f(g(h(D)),A)", []int{3, 0}},
	}
	for _, c := range cases {
		if got := impl.TermVars(mustParse(t, c.text)); !slices.Equal(got, c.want) {
			t.Errorf("TermVars(%s) = %v, not %v", c.text, got, c.want)
		}
	}
}

func TestRenumberTerms(t *testing.T) {
	cases := []struct {
		texts []string
		want  string
	}{
		{nil, ""}, {[]string{"a", "-3"}, "a -3"}, {[]string{"Z"}, "A"}, {[]string{"A", "B"}, "A B"},
		{[]string{"f(C)", "g(B,C)"}, "f(A) g(B,A)"}, {[]string{"f(B,A)", "A", "B"}, "f(A,B) B A"}, {[]string{"[Z,Y|Z]", "X"}, "[A,B|A] C"},
	}
	for _, c := range cases {
		got, ok := impl.RenumberTerms(mustParseAll(t, c.texts...))
		if !ok || len(got) != len(c.texts) || formatAll(got) != c.want {
			t.Errorf("RenumberTerms(%v) = %s, %v", c.texts, formatAll(got), ok)
		}
	}
	var all []impl.Term
	for n := range impl.MaxVar + 1 {
		all = append(all, variable(impl.MaxVar-n))
	}
	got, ok := impl.RenumberTerms(all)
	if !ok || formatAll(got) != "A B C D E F G H I J K L M N O P Q R S T U V W X Y Z" {
		t.Errorf("RenumberTerms of all variables = %s, %v", formatAll(got), ok)
	}
}

func TestCompareTerms(t *testing.T) {
	order := []string{
		"A", "B", "Z", "-999", "-1", "0", "1", "10", "999",
		"!", "*", "+", "-", ".", "//", "<", "=", "=:=", "=<", "==", ">", ">=", "[]", "\\=", "a", "aa", "ab", "abcdef", "b",
		"-(1)", "-(2)", "-(a)", "-(f(a))", "[](a)", "a(A)", "a(B)", "a(-1)", "a(a)", "a(a(a))", "z(A)",
		"*(z,z)", "-(A,9)", "-(1,2)", "-(1,3)", "-(2,1)", "[A|B]", "[a]", "[a,b]", "[b]", "=(a,b)", "f(a,b)", "f(b,a)",
		"a(A,A,A)", "b(A,A,A)", "a(A,A,A,A)", "a(A,A,A,B)", "a(A,B,A,A)",
	}
	terms := mustParseAll(t, order...)
	for i, x := range terms {
		for k, y := range terms {
			want := 0
			if i < k {
				want = -1
			} else if i > k {
				want = 1
			}
			if got := impl.CompareTerms(x, y); got != want {
				t.Errorf("CompareTerms(%s, %s) = %d, not %d", order[i], order[k], got, want)
			}
		}
	}
}

func TestStandardOrderIsTotal(t *testing.T) {
	s := source{state: 7}
	var terms []impl.Term
	for len(terms) < 400 {
		if x := s.term(s.below(3)); impl.TermValid(x) {
			terms = append(terms, x)
		}
	}
	for _, x := range terms {
		for _, y := range terms {
			c := impl.CompareTerms(x, y)
			if c != -impl.CompareTerms(y, x) || (c == 0) != impl.TermSame(x, y) {
				t.Fatalf("CompareTerms(%s, %s) = %d", impl.FormatTerm(x), impl.FormatTerm(y), c)
			}
		}
	}
	slices.SortFunc(terms, impl.CompareTerms)
	for i, x := range terms {
		for _, y := range terms[i:] {
			if impl.CompareTerms(x, y) > 0 {
				t.Fatalf("%s is sorted before %s", impl.FormatTerm(x), impl.FormatTerm(y))
			}
		}
	}
}

func TestMakeList(t *testing.T) {
	cases := []struct {
		items []string
		tail  string
		want  string
	}{
		{nil, "[]", "[]"}, {nil, "A", "A"}, {nil, "-3", "-3"}, {[]string{"1", "a"}, "[]", "[1,a]"}, {[]string{"a"}, "B", "[a|B]"},
		{[]string{"a"}, "[b|c]", "[a,b|c]"}, {[]string{"[]", "[a]"}, "[b]", "[[],[a],b]"}, {[]string{"a"}, "b", "[a|b]"},
	}
	for _, c := range cases {
		got, ok := impl.MakeList(mustParseAll(t, c.items...), mustParse(t, c.tail))
		if !ok || impl.FormatTerm(got) != c.want {
			t.Errorf("MakeList(%v, %s) = %v, %v", c.items, c.tail, got, ok)
		}
	}
}

func TestMakeListAtTheLimits(t *testing.T) {
	nothing := structure("[]")
	for _, n := range []int{29, 30, impl.MaxNodes, impl.MaxNodes + 1, 5000} {
		list := slices.Repeat([]impl.Term{structure("a")}, n)
		got, ok := impl.MakeList(list, nothing)
		if ok != (n == 29) || !ok && !impl.TermSame(got, impl.Term{}) {
			t.Errorf("MakeList of %d elements: %v, %v", n, got, ok)
		}
	}
	// A list of three elements has four nodes of its own, and 120 with elements of 116 nodes in all.
	for nodes, want := range map[int]bool{38: true, 39: false} {
		list := []impl.Term{bush(39), bush(39), bush(nodes)}
		if got, ok := impl.MakeList(list, nothing); ok != want || ok && impl.CountNodes(got) != impl.MaxNodes {
			t.Errorf("MakeList with %d nodes in the last element: %v", nodes, ok)
		}
	}
	if _, ok := impl.MakeList([]impl.Term{chain(29)}, nothing); !ok {
		t.Error("MakeList refuses a list of the greatest depth")
	}
	if _, ok := impl.MakeList([]impl.Term{chain(30)}, nothing); ok {
		t.Error("MakeList accepts a list that is too deep")
	}
}

func TestListOf(t *testing.T) {
	for text, want := range map[string]string{"[]": "", "[a]": "a", "[1,A,[b]]": "1 A [b]", "[[]]": "[]", "[f(A),-5]": "f(A) -5"} {
		items, ok := impl.ListOf(mustParse(t, text))
		if !ok || formatAll(items) != want || want == "" && len(items) != 0 {
			t.Errorf("ListOf(%s) = %v, %v", text, items, ok)
		}
	}
	for _, text := range []string{"A", "1", "a", "f(a,[])", "[a|b]", "[a|B]", "[a|[](b)]", "[a,b|1]", "[](a)", ".", ".(a)", ".(a,[],[])"} {
		if items, ok := impl.ListOf(mustParse(t, text)); ok || len(items) != 0 {
			t.Errorf("ListOf(%s) = %v, %v", text, items, ok)
		}
	}
}

func TestCountNodes(t *testing.T) {
	for text, want := range map[string]int{"A": 1, "-7": 1, "a": 1, "[]": 1, "[a]": 3, "[1,f(A)|B]": 6, "f(a,g(b),c)": 5} {
		if got := impl.CountNodes(mustParse(t, text)); got != want {
			t.Errorf("CountNodes(%s) = %d, not %d", text, got, want)
		}
	}
}

// overwrite changes all memory of terms, unused capacity included.
func overwrite(list []impl.Term) {
	list = list[:cap(list)]
	for i := range list {
		overwrite(list[i].Kids)
		list[i] = impl.Term{Kind: impl.TermInt, N: 77}
	}
}

func TestResultsShareNoMemory(t *testing.T) {
	x := structure("f", variable(3), structure("g", variable(1)))
	renumbered, _ := impl.RenumberTerms([]impl.Term{x, x})
	made, _ := impl.MakeList([]impl.Term{x, x}, structure("h", x))
	list := structure(".", x, structure(".", x, structure("[]")))
	items, _ := impl.ListOf(list)
	if formatAll([]impl.Term{x, list}) != "f(D,g(B)) [f(D,g(B)),f(D,g(B))]" {
		t.Errorf("an argument was changed: %s", formatAll([]impl.Term{x, list}))
	}
	overwrite([]impl.Term{x, list})
	if got := formatAll(renumbered); got != "f(A,g(B)) f(A,g(B))" {
		t.Errorf("RenumberTerms shares memory with its argument: %s", got)
	}
	if got := impl.FormatTerm(made); got != "[f(D,g(B)),f(D,g(B))|h(f(D,g(B)))]" {
		t.Errorf("MakeList shares memory with its argument: %s", got)
	}
	if got := formatAll(items); got != "f(D,g(B)) f(D,g(B))" {
		t.Errorf("ListOf shares memory with its argument: %s", got)
	}
	overwrite(renumbered[0].Kids)
	overwrite(items[0].Kids)
	overwrite(made.Kids[0].Kids)
	if got := formatAll([]impl.Term{renumbered[1], items[1], made.Kids[1]}); got != "f(A,g(B)) f(D,g(B)) [f(D,g(B))|h(f(D,g(B)))]" {
		t.Errorf("parts of a result share memory: %s", got)
	}
}

func TestArgumentsStayAsTheyAre(t *testing.T) {
	memory := []impl.Term{variable(9), structure("f", variable(4)), number(7), number(8)}
	list := memory[:2]
	impl.RenumberTerms(list)
	impl.MakeList(list, structure("[]"))
	x := impl.Term{Kind: impl.TermStruct, Name: "f", Kids: list}
	impl.TermVars(x)
	impl.TermSame(x, x)
	impl.FormatTerm(x)
	if got := formatAll(memory); got != "J f(E) 7 8" {
		t.Errorf("an argument was changed: %s", got)
	}
}
