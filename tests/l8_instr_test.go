package tests

import (
	"fmt"
	"math"
	"regexp"
	"slices"
	"strings"
	"testing"

	"loop.example/prologserver/impl"
)

// opRow is an Op with its word, and with the fields that are in its text.
type opRow struct {
	op    int
	word  string
	hasA  bool
	hasB  bool
	named bool
}

func opRows() []opRow {
	return []opRow{
		{impl.OpGetVal, "getval", true, true, false}, {impl.OpGetInt, "getint", true, true, false}, {impl.OpGetStruct, "getstr", true, true, true},
		{impl.OpUniVar, "univar", true, false, false}, {impl.OpUniVal, "unival", true, false, false}, {impl.OpUniInt, "uniint", true, false, false},
		{impl.OpSetStruct, "setstr", true, true, true}, {impl.OpPutVar, "putvar", true, true, false}, {impl.OpPutVal, "putval", true, true, false}, {impl.OpPutInt, "putint", true, true, false},
		{impl.OpCall, "call", true, false, true}, {impl.OpBuiltin, "built", true, false, true}, {impl.OpCut, "cut", false, false, false}, {impl.OpProceed, "end", false, false, false},
	}
}

// text returns the text of an instruction with this Op, and whether it has one.
func (r opRow) text(a int, b int, name string) (string, bool) {
	text := r.word
	ok := a >= -999 && a <= 999 && b >= 0 && b <= 999
	if r.hasA {
		text += fmt.Sprintf(" %d", a)
	} else if a != 0 {
		ok = false
	}
	if r.hasB {
		text += fmt.Sprintf(" %d", b)
	} else if b != 0 {
		ok = false
	}
	if r.named {
		text += " " + name
		ok = ok && impl.NameValid(name)
	} else if name != "" {
		ok = false
	}
	return text, ok
}

// checkInstr checks the text of an instruction, and that it is read back; the empty text stands for none.
func checkInstr(t *testing.T, x impl.Instr, want string) {
	t.Helper()
	if got := impl.FormatInstr(x); got != want {
		t.Errorf("FormatInstr(%v) = %q, not %q", x, got, want)
	}
	if want == "" {
		return
	}
	if back, ok := impl.ParseInstr(want); !ok || back != x {
		t.Errorf("ParseInstr(%q) = %v, %v, not %v", want, back, ok, x)
	}
}

// checkNoInstr checks that there is no instruction with a text.
func checkNoInstr(t *testing.T, text string) {
	t.Helper()
	if x, ok := impl.ParseInstr(text); ok || x != (impl.Instr{}) {
		t.Errorf("ParseInstr(%q) = %v, %v", text, x, ok)
	}
}

func TestOps(t *testing.T) {
	for i, row := range opRows() {
		if row.op != i+1 {
			t.Errorf("the Op of %s is %d", row.word, row.op)
		}
	}
	if impl.MaxCode != 2000 {
		t.Errorf("MaxCode is %d", impl.MaxCode)
	}
}

func TestTextsOfInstructions(t *testing.T) {
	cases := map[string]impl.Instr{
		"getval 1 2": {Op: 1, A: 1, B: 2}, "getval 0 0": {Op: 1}, "getint -7 3": {Op: 2, A: -7, B: 3}, "getstr 2 0 .": {Op: 3, A: 2, Name: "."}, "getstr 0 3 []": {Op: 3, B: 3, Name: "[]"}, "univar 4": {Op: 4, A: 4}, "unival 0": {Op: 5}, "uniint -999": {Op: 6, A: -999}, "uniint 0": {Op: 6},
		"setstr 1 5 f": {Op: 7, A: 1, B: 5, Name: "f"}, "setstr 2 10 +": {Op: 7, A: 2, B: 10, Name: "+"}, "putvar 4 0": {Op: 8, A: 4}, "putval 12 3": {Op: 9, A: 12, B: 3}, "putint 100 1": {Op: 10, A: 100, B: 1}, "call 1 q": {Op: 11, A: 1, Name: "q"}, "call 0 abcdef": {Op: 11, Name: "abcdef"}, "built 2 is": {Op: 12, A: 2, Name: "is"}, "built 2 =:=": {Op: 12, A: 2, Name: "=:="}, "cut": {Op: 13}, "end": {Op: 14},
		// Fields that no clause has are within the limits, too.
		"getval -1 9": {Op: 1, A: -1, B: 9}, "getstr -5 999 !": {Op: 3, A: -5, B: 999, Name: "!"}, "univar -4": {Op: 4, A: -4}, "call 999 true": {Op: 11, A: 999, Name: "true"}, "call -1 !": {Op: 11, A: -1, Name: "!"}, "built 4 q": {Op: 12, A: 4, Name: "q"}, "setstr 5 0 cut": {Op: 7, A: 5, Name: "cut"},
	}
	for text, x := range cases {
		checkInstr(t, x, text)
	}
}

// TestFieldsOfInstructions has each Op with fields at their limits and past them, and with names of all kinds.
func TestFieldsOfInstructions(t *testing.T) {
	as := []int{0, 1, -1, 4, 25, 999, -999, 1000, -1000, 1001, math.MaxInt, math.MinInt, math.MaxInt32 + 1}
	bs := []int{0, 1, 3, 4, 999, -1, -999, 1000, 1001, math.MaxInt, math.MinInt}
	names := append(allNames(), "", "f", "abcdef", "abcdefg", "F", "f1", "f ", " f", "f\n", "a b", "0", "1", "-1", "===", "[", "..", "!!", "\xff", "é", "(", ":-")
	texts := map[string]bool{}
	for _, row := range opRows() {
		for _, a := range as {
			for _, b := range bs {
				for _, name := range names {
					text, ok := row.text(a, b, name)
					x := impl.Instr{Op: row.op, A: a, B: b, Name: name}
					if ok {
						texts[text] = true
						checkInstr(t, x, text)
					} else {
						checkInstr(t, x, "")
					}
				}
			}
		}
	}
	// A has 7 values within the limits, and B has 5.
	valid := 0
	for _, name := range names {
		if impl.NameValid(name) {
			valid++
		}
	}
	if want := 5*35 + 3*7 + 2 + 2*35*valid + 2*7*valid; len(texts) != want {
		t.Errorf("there are %d texts, not %d", len(texts), want)
	}
	// Texts with fields past the limits have no instruction.
	for _, row := range opRows() {
		for _, a := range as {
			for _, b := range bs {
				for _, name := range names {
					if text, _ := row.text(a, b, name); !texts[text] {
						checkNoInstr(t, text)
					}
				}
			}
		}
	}
}

func TestInstructionsOfOtherOps(t *testing.T) {
	for _, op := range []int{0, 15, 16, -1, -2, 999, 1000, math.MaxInt, math.MinInt, 1 << 32, 1<<32 + 13} {
		for _, x := range []impl.Instr{{Op: op}, {Op: op, A: 1}, {Op: op, A: 1, B: 2}, {Op: op, A: 1, Name: "f"}, {Op: op, A: 1, B: 1, Name: "f"}} {
			checkInstr(t, x, "")
		}
	}
}

func TestParseInstrRefuses(t *testing.T) {
	for _, row := range opRows() {
		text, _ := row.text(0, 0, "")
		if row.named {
			text, _ = row.text(1, 0, "f")
		}
		if _, ok := impl.ParseInstr(text); !ok {
			t.Errorf("ParseInstr(%q) = false", text)
		}
		words := strings.Split(text, " ")
		for _, bad := range []string{text + " ", " " + text, text + "\n", "\n" + text, text + "\x00", text + " 0", text + " f", text + " 0 f", text + "  ", strings.ToUpper(text), strings.ReplaceAll(text+" ", " ", "  "), strings.Join(words[:len(words)-1], " "), strings.Join(words[1:], " "), text + " " + text, row.word + "x", row.word[1:], row.word + " ", row.word + "\t0"} {
			checkNoInstr(t, bad)
		}
		if len(words) > 1 {
			checkNoInstr(t, row.word)
			checkNoInstr(t, strings.ReplaceAll(text, " ", "  "))
			checkNoInstr(t, strings.ReplaceAll(text, " ", "\t"))
			checkNoInstr(t, strings.Replace(text, " ", "", 1))
		}
		for i := 1; i < len(words); i++ {
			for _, word := range []string{"", "00", "01", "-0", "+0", "+1", "-01", "--1", "- 1", "-", "0x1", "1_0", "1.0", "1e2", "A", "f1", "1000", "-1000", "99999999999999999999", "-99999999999999999999", "\xff", "\u0661"} {
				// - is a name.
				if word == "-" && row.named && i == len(words)-1 {
					continue
				}
				changed := slices.Clone(words)
				changed[i] = word
				checkNoInstr(t, strings.Join(changed, " "))
			}
		}
	}
	for _, text := range []string{"", " ", "  ", "\n", "0", "13", "-", "f", "call 1", "call q", "call q 1", "call 1 q 0", "call 1 0 q", "call 1 Q", "call 1  q", "call 01 q", "cut 0", "end 0", "cut end", "getstr 2 .", "getstr 2 0", "getstr . 2 0", "getstr 2 0 . .", "getstr f 0 f", "getval 1", "getval 1 2 3", "getval 1 -1", "getval -1 -0", "getval 1 2 f", "univar", "univar 1 2", "univar f", "putint 1 -2", "get 1 2", "getvals 1 2", "\x00cut", "cut\xff", strings.Repeat("cut ", 100000), strings.Repeat("c", 100000), "call 1 " + strings.Repeat("q", 100000), "univar " + strings.Repeat("0", 100000)} {
		checkNoInstr(t, text)
	}
}

// TestParseInstrOfManyTexts compares what is read from texts of all kinds of words with a regular expression.
func TestParseInstrOfManyTexts(t *testing.T) {
	const a, b, name = `(0|-?[1-9][0-9]{0,2})`, `(0|[1-9][0-9]{0,2})`, `([a-z]{1,6}|\+|-|\*|//|=|\\=|==|<|>|=<|>=|=:=|\.|\[\]|!)`
	form := regexp.MustCompile(`^((getval|getint|putvar|putval|putint) ` + a + ` ` + b + `|(getstr|setstr) ` + a + ` ` + b + ` ` + name + `|(univar|unival|uniint) ` + a + `|(call|built) ` + a + ` ` + name + `|cut|end)$`)
	read := 0
	check := func(text string) {
		x, ok := impl.ParseInstr(text)
		if want := form.MatchString(text); ok != want || impl.FormatInstr(x) != text && ok || !ok && x != (impl.Instr{}) {
			t.Fatalf("ParseInstr(%q) = %v, %v, not %v", text, x, ok, want)
		}
		if ok {
			read++
		}
	}
	parts := []string{" ", "0", "1", "-", "f", "is", "=:=", "cut"}
	for _, row := range opRows() {
		combine(parts, 5, func(text string) { check(row.word + text) })
	}
	combine(append(parts, "end", "call"), 5, check)
	s := source{state: 52}
	for range 30000 {
		row := opRows()[s.below(14)]
		text, _ := row.text(s.below(2400)-1200, s.below(1200)-30, allNames()[s.below(len(allNames()))])
		check(text)
		changed := []byte(text)
		changed[s.below(len(changed))] = " 019-+agi=.!\n\xff"[s.below(14)]
		check(string(changed))
	}
	if read < 20000 {
		t.Errorf("only %d texts were read", read)
	}
}

func TestFormatCode(t *testing.T) {
	for _, code := range [][]impl.Instr{nil, {}} {
		if got := impl.FormatCode(code); got != "" {
			t.Errorf("FormatCode of no code = %q", got)
		}
	}
	code := []impl.Instr{{Op: impl.OpGetStruct, A: 1, B: 1, Name: "f"}, {Op: impl.OpUniVal}, {Op: impl.OpPutVal}, {Op: impl.OpCall, A: 1, Name: "q"}, {Op: impl.OpProceed}}
	if got := impl.FormatCode(code); got != "getstr 1 1 f\nunival 0\nputval 0 0\ncall 1 q\nend\n" {
		t.Errorf("FormatCode = %q", got)
	}
	// Code need not be that of a clause.
	if got := impl.FormatCode([]impl.Instr{{Op: impl.OpProceed}, {Op: impl.OpUniInt, A: -5}, {Op: impl.OpCut}, {Op: impl.OpCut}}); got != "end\nuniint -5\ncut\ncut\n" {
		t.Errorf("FormatCode = %q", got)
	}
	for _, bad := range []impl.Instr{{}, {Op: 15}, {Op: -1}, {Op: impl.OpCut, A: 1}, {Op: impl.OpProceed, B: 1}, {Op: impl.OpProceed, Name: "f"}, {Op: impl.OpCall, A: 1}, {Op: impl.OpCall, A: 1, B: 1, Name: "q"}, {Op: impl.OpUniVar, A: 1000}, {Op: impl.OpUniVar, B: 1}, {Op: impl.OpGetVal, B: -1}, {Op: impl.OpGetInt, A: -1000}, {Op: impl.OpGetStruct, Name: "F"}} {
		for place := range len(code) + 1 {
			if got := impl.FormatCode(slices.Insert(slices.Clone(code), place, bad)); got != "" {
				t.Errorf("FormatCode with %v at %d = %q", bad, place, got)
			}
		}
		if got := impl.FormatCode([]impl.Instr{bad}); got != "" {
			t.Errorf("FormatCode of %v = %q", bad, got)
		}
	}
}

func TestFormatCodeAtTheLimit(t *testing.T) {
	for _, x := range []impl.Instr{{Op: impl.OpCut}, {Op: impl.OpSetStruct, A: -999, B: 999, Name: "abcdef"}} {
		line := impl.FormatInstr(x) + "\n"
		for _, length := range []int{1, 2, impl.MaxCode - 1, impl.MaxCode, impl.MaxCode + 1, impl.MaxCode + 2, 100000} {
			want := ""
			if length <= impl.MaxCode {
				want = strings.Repeat(line, length)
			}
			if got := impl.FormatCode(slices.Repeat([]impl.Instr{x}, length)); got != want {
				t.Errorf("FormatCode of %d instructions has %d bytes", length, len(got))
			}
		}
	}
}

// slotRow is a field of an instruction, and whether it counts as a slot.
type slotRow struct {
	about  string
	make   func(n int) impl.Instr
	counts bool
}

func slotRows() []slotRow {
	counting := map[string]bool{"A of getval": true, "A of univar": true, "A of unival": true, "A of putvar": true, "A of putval": true, "B of setstr": true}
	var rows []slotRow
	for _, row := range opRows() {
		rows = append(rows,
			slotRow{"A of " + row.word, func(n int) impl.Instr { return impl.Instr{Op: row.op, A: n} }, counting["A of "+row.word]},
			slotRow{"B of " + row.word, func(n int) impl.Instr { return impl.Instr{Op: row.op, B: n} }, counting["B of "+row.word]})
	}
	for _, op := range []int{0, 15, -1, 16, math.MaxInt, math.MinInt} {
		rows = append(rows,
			slotRow{fmt.Sprint("A of the Op ", op), func(n int) impl.Instr { return impl.Instr{Op: op, A: n} }, false},
			slotRow{fmt.Sprint("B of the Op ", op), func(n int) impl.Instr { return impl.Instr{Op: op, B: n} }, false})
	}
	return rows
}

func TestCodeSlots(t *testing.T) {
	if got, empty := impl.CodeSlots(nil), impl.CodeSlots([]impl.Instr{}); got != impl.MaxArity || empty != impl.MaxArity {
		t.Errorf("CodeSlots of no code = %d and %d", got, empty)
	}
	for _, row := range slotRows() {
		for n, slots := range map[int]int{0: 4, 1: 4, 2: 4, 3: 4, 4: 5, 5: 6, 24: 25, 998: 999, 999: 1000, 1000: 1001, -1: 4, -2: 4, -1000: 4, math.MinInt: 4, math.MaxInt - 2: math.MaxInt - 1, math.MaxInt - 1: math.MaxInt, math.MaxInt: math.MaxInt} {
			if !row.counts {
				slots = impl.MaxArity
			}
			x := row.make(n)
			named := x
			named.Name = "not a name"
			for _, code := range [][]impl.Instr{{x}, {x, x}, {named}, {{Op: impl.OpUniVar, A: -1}, x, {Op: impl.OpProceed}}, {x, {Op: impl.OpUniVal}}} {
				if got := impl.CodeSlots(code); got != slots {
					t.Errorf("CodeSlots with %d as %s = %d, not %d", n, row.about, got, slots)
				}
			}
			// The greatest slot counts, wherever it is.
			for _, code := range [][]impl.Instr{{x, {Op: impl.OpPutVal, A: 7, B: 99}}, {{Op: impl.OpSetStruct, A: 99, B: 7}, x}} {
				if got := impl.CodeSlots(code); got != max(slots, 8) {
					t.Errorf("CodeSlots with 7 and with %d as %s = %d", n, row.about, got)
				}
			}
		}
	}
	long := slices.Repeat([]impl.Instr{{Op: impl.OpUniVar, A: 3}, {Op: 99, A: 99}}, 50000)
	if got := impl.CodeSlots(long); got != impl.MaxArity {
		t.Errorf("CodeSlots of long code = %d", got)
	}
	if got := impl.CodeSlots(append(long, impl.Instr{Op: impl.OpPutVar, A: 11})); got != 12 {
		t.Errorf("CodeSlots of long code = %d", got)
	}
}

// TestSlotsOfCode has the code of clauses and queries.
func TestSlotsOfCode(t *testing.T) {
	for text, want := range map[string]int{"p.": 4, "p(A,B,C,D).": 4, "p(1,a).": 4, "p(A,A).": 4, "p(f(A)).": 5, "p(f(A),A).": 4, "p(f(1)).": 4, "p([A|B]).": 6, "p:-q(A).": 5, "p:-q(a).": 5, "p:-q(f(1)).": 5, "p(A):-q(A,!).": 5, "p:-q(1),!.": 4, "app([A|B],C,[A|D]):-app(B,C,D).": 7, "p(A):-B is A+1,q(f(B,g(C))).": 9} {
		if got := impl.CodeSlots(mustCompile(t, mustClause(t, text))); got != want {
			t.Errorf("CodeSlots of the code of %s = %d, not %d", text, got, want)
		}
	}
	code, _ := impl.CompileQuery(mustQuery(t, "p(A),q(f(A),B)"))
	if got := impl.CodeSlots(code); got != 7 {
		t.Errorf("CodeSlots of the code of a query = %d", got)
	}
}

// TestTextsOfCodeChangeNothing has code with memory beyond its length.
func TestTextsOfCodeChangeNothing(t *testing.T) {
	memory := []impl.Instr{{Op: impl.OpGetStruct, A: 1, Name: "f"}, {Op: impl.OpUniVar, A: 4}, {Op: impl.OpProceed}, {Op: impl.OpCall, A: 7, Name: "q"}, {Op: 88}}
	want := slices.Clone(memory)
	for range 2 {
		impl.FormatCode(memory[:3])
		impl.CodeSlots(memory[:3])
		impl.ReadClause(memory[:3], "p", 1)
		impl.ReadClause(memory[:2], "p", 1)
	}
	if !slices.Equal(memory, want) {
		t.Errorf("code was changed: %v", memory)
	}
}
