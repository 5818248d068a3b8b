package tests

import (
	"slices"
	"testing"

	"loop.example/prologserver/impl"
)

// differentSessions returns sessions of which no two are equal, most of them not valid.
func differentSessions(t *testing.T) []impl.Session {
	t.Helper()
	var list []impl.Session
	for _, program := range [][]string{nil, {"p(1)."}, {"p(2)."}, {"p(1).", "p(1)."}, {"p(1).", "p(2)."}, {"p(2).", "p(1)."}, {"p(1):-p(2)."}, {"p(1):-p(1),p(2)."}, {"p(1):-p(2),p(1)."}, {"p(A)."}, {"p(B)."}, {"q(1)."}, {"p(1,1)."}, {"p(f(f(f(1))))."}, {"p(f(f(f(2))))."}, {"p(1):-p(f(f(1)))."}, {"p(1):-p(f(f(2)))."}} {
		for _, query := range []string{"", "p(1)", "p(2)", "p(A)", "p(1),p(1)", "p(f(g(1)))", "p(f(g(2)))"} {
			s := impl.Session{Program: mustProgram(t, program...)}
			if query != "" {
				s.Query = mustQuery(t, query)
			}
			list = append(list, s)
		}
	}
	fine := list[8]
	for _, n := range []int{leastInt, -2, -1, 1, 2, impl.MaxFuel, greatestInt} {
		quota, used, sent, end := fine, fine, fine, fine
		quota.Quota, used.Used, sent.Sent, end.End = n, n, n, n
		list = append(list, quota, used, sent, end)
	}
	return list
}

func TestSessionSame(t *testing.T) {
	list := differentSessions(t)
	// The goals of a body, of a query and of a head count for themselves.
	p := structure("p", number(1))
	list = append(list, impl.Session{Program: []impl.Clause{{}}}, impl.Session{Program: []impl.Clause{{}, {}}}, impl.Session{Program: []impl.Clause{{Body: []impl.Term{p}}}}, impl.Session{Program: []impl.Clause{{Body: []impl.Term{p, {}}}}}, impl.Session{Program: []impl.Clause{{Body: []impl.Term{{}, p}}}}, impl.Session{Query: []impl.Term{{}}}, impl.Session{Query: []impl.Term{{}, {}}}, impl.Session{Query: []impl.Term{{Kids: []impl.Term{p}}}}, impl.Session{Program: slices.Repeat([]impl.Clause{{Head: p}}, impl.MaxClauses+1)}, impl.Session{Program: []impl.Clause{{Head: p, Body: slices.Repeat([]impl.Term{p}, impl.MaxGoals+1)}}})
	again := slices.Clone(list)
	for i := range again {
		again[i].Program, again[i].Query = slices.Clone(list[i].Program), slices.Clone(list[i].Query)
	}
	for i, a := range list {
		for j, b := range again {
			if got := impl.SessionSame(a, b); got != (i == j) {
				t.Errorf("SessionSame of the sessions %d and %d = %v", i, j, got)
			}
		}
		opened, ok := impl.OpenSession(a.Program, a.Query, 7)
		a.Quota, a.Used, a.Sent, a.End = 7, 0, 0, impl.Running
		if ok && !impl.SessionSame(a, opened) {
			t.Errorf("SessionSame of the session %d and a copy = false", i)
		}
	}
	empty := impl.Session{Program: []impl.Clause{}, Query: []impl.Term{}}
	if !impl.SessionSame(impl.Session{}, empty) || !impl.SessionSame(empty, impl.Session{}) {
		t.Error("SessionSame of empty lists and none = false")
	}
	noBody, noKids := impl.Session{Program: []impl.Clause{{Head: structure("p"), Body: []impl.Term{}}}}, impl.Session{Program: []impl.Clause{{Head: impl.Term{Kind: impl.TermStruct, Name: "p", Kids: []impl.Term{}}}}}
	if !impl.SessionSame(noBody, noKids) {
		t.Error("SessionSame of empty bodies and arguments, and none, = false")
	}
}

// TestSessionSameOfInvalidSessions has sessions with terms that are not valid, in all places.
func TestSessionSameOfInvalidSessions(t *testing.T) {
	first, second := invalidSessions(t), invalidSessions(t)
	fine := mustOpen(t, mustProgram(t, "p(1)."), mustQuery(t, "p(A)"), 10)
	for name, bad := range first {
		if !impl.SessionSame(bad, second[name]) || !impl.SessionSame(bad, bad) {
			t.Errorf("%s: SessionSame = false", name)
		}
		if impl.SessionSame(bad, fine) || impl.SessionSame(fine, bad) {
			t.Errorf("%s: SessionSame with a valid session = true", name)
		}
		other := bad
		other.Sent++
		if impl.SessionSame(bad, other) {
			t.Errorf("%s: SessionSame with another number = true", name)
		}
	}
	inTime(t, func() {
		x, y := number(1), number(1)
		for range 60 {
			x, y = structure("f", x, x), structure("f", y, y)
		}
		a := impl.Session{Program: []impl.Clause{{Head: x, Body: []impl.Term{y, x}}}, Query: []impl.Term{x, y}}
		b := impl.Session{Program: []impl.Clause{{Head: y, Body: []impl.Term{x, y}}}, Query: []impl.Term{y, x}}
		if !impl.SessionSame(a, b) {
			t.Error("SessionSame of large sessions = false")
		}
		// The same session is returned, whatever is in it.
		if next, sent := impl.SliceSession(a, 1); !impl.SessionSame(next, b) || len(sent) > 0 {
			t.Error("SliceSession of a large session returns another one")
		}
		deep := structure("a")
		for range 1000000 {
			deep = structure("f", deep)
		}
		wide := impl.Session{Program: slices.Repeat([]impl.Clause{{Head: x, Body: []impl.Term{deep, selfContaining("f")}}}, 1000), Query: slices.Repeat([]impl.Term{y, deep}, 1000)}
		if next, sent := impl.SliceSession(wide, 1); !impl.SessionSame(next, wide) || len(sent) > 0 {
			t.Error("SliceSession of a session with large terms returns another one")
		}
	})
}

// overwriteSession changes all memory of a session.
func overwriteSession(s impl.Session) {
	overwriteClauses(s.Program)
	overwrite(s.Query)
}

// overwriteAnswers changes all memory of answers.
func overwriteAnswers(list []impl.Answer) {
	list = list[:cap(list)]
	for i := range list {
		overwrite(list[i].Values)
		list[i] = impl.Answer{Values: []impl.Term{number(77)}}
	}
}

// sharingSession returns a session before its first slice, in which parts share memory with others.
func sharingSession() impl.Session {
	x := structure("f", structure("g", number(1)), variable(0))
	head := structure("p", x, x)
	body := []impl.Term{equal(x, x), structure("true")}
	p := []impl.Clause{{Head: head, Body: body}, {Head: head, Body: body}, {Head: head}}
	query := []impl.Term{structure("p", variable(0), variable(1)), structure("=", x, x)}
	return impl.Session{Program: p, Query: query, Quota: 50, End: impl.Running}
}

const sharingText = "p(f(g(1),A),f(g(1),A)):-f(g(1),A)=f(g(1),A),true.\n"

func TestSessionsShareNoMemory(t *testing.T) {
	x := structure("f", structure("g", number(1)), variable(0))
	head := structure("p", x, x)
	body := []impl.Term{equal(x, x), structure("true")}
	p := []impl.Clause{{Head: head, Body: body}, {Head: head, Body: body}}
	query := []impl.Term{structure("p", variable(0), variable(1)), structure("=", x, x)}
	const programText, queryText = sharingText + sharingText, "p(A,B),f(g(1),A)=f(g(1),A)"
	check := func(about string, s impl.Session) {
		t.Helper()
		if got := impl.FormatProgram(s.Program) + writeAll(s.Query); got != programText+queryText {
			t.Errorf("%s: %s", about, got)
		}
	}
	// The states of a session one after the other: opened, running, ended, and unchanged.
	var states []impl.Session
	var batches [][]impl.Answer
	s, _ := impl.OpenSession(p, query, 50)
	states = append(states, s)
	for _, slice := range []int{-1, 0, 1, 3, 1, 40, 1} {
		next, sent := impl.SliceSession(s, slice)
		states, batches = append(states, next), append(batches, sent)
		s = next
	}
	bad := s
	bad.Quota = -1
	invalid, _ := impl.SliceSession(bad, 1)
	states = append(states, invalid)
	overwriteClauses(p)
	overwrite(query)
	for i := range states {
		check("a session shares memory with an argument", states[i])
		overwriteSession(states[i])
		for _, other := range states[i+1:] {
			check("two sessions share memory", other)
		}
	}
	for i, batch := range batches {
		texts := formatAnswers(mustQuery(t, queryText), batch)
		for _, others := range batches[:i] {
			overwriteAnswers(others)
		}
		if got := formatAnswers(mustQuery(t, queryText), batch); got != texts || (i == 3 || i == 5) != (got == "A=f(g(1),A);B=f(g(1),A)") {
			t.Errorf("the slice %d sends %q, and then %q", i, texts, got)
		}
	}
}

// TestPartsOfSessionsShareNoMemory changes each part of sessions that are returned, and looks at all others.
func TestPartsOfSessionsShareNoMemory(t *testing.T) {
	ways := map[string]func(s impl.Session) impl.Session{
		"opened":         func(s impl.Session) impl.Session { return mustOpen(t, s.Program, s.Query, s.Quota) },
		"sliced":         func(s impl.Session) impl.Session { return s },
		"without fuel":   func(s impl.Session) impl.Session { s.Quota = 0; return s },
		"ended":          func(s impl.Session) impl.Session { s.Used, s.Sent, s.End = 50, 3, impl.EndNo; return s },
		"invalid":        func(s impl.Session) impl.Session { s.Used = 77; return s },
		"invalid clause": func(s impl.Session) impl.Session { s.Program[2].Head.Name = "P"; return s },
		"invalid terms": func(s impl.Session) impl.Session {
			for _, c := range s.Program {
				c.Head.Kids[0].Name, c.Head.Kids[1].Name = "F", "F"
			}
			return s
		},
	}
	for name, way := range ways {
		parts := func(s impl.Session) [][]impl.Term {
			list := [][]impl.Term{s.Query, s.Query[0].Kids, s.Query[1].Kids, s.Query[1].Kids[0].Kids, s.Query[1].Kids[1].Kids}
			for _, c := range s.Program {
				list = append(list, c.Head.Kids, c.Head.Kids[0].Kids, c.Head.Kids[1].Kids, c.Head.Kids[0].Kids[0].Kids, c.Head.Kids[1].Kids[0].Kids, c.Body)
			}
			return append(list, s.Program[0].Body[0].Kids, s.Program[1].Body[0].Kids, s.Program[0].Body[0].Kids[0].Kids, s.Program[0].Body[0].Kids[1].Kids)
		}
		for i := range parts(sharingSession()) {
			s := way(sharingSession())
			if name != "opened" {
				s, _ = impl.SliceSession(s, 5)
			}
			part := parts(s)[i]
			for j := range part[:cap(part)] {
				part[:cap(part)][j].N = 77
			}
			// Only this part has the number now.
			if got := countNumber(s, 77); got != len(part) {
				t.Errorf("%s: the part %d of %d terms changes %d", name, i, len(part), got)
			}
		}
	}
}

// TestLargeSessionsShareNoMemory has terms with many nodes, and others that are not valid because they have even more.
func TestLargeSessionsShareNoMemory(t *testing.T) {
	part := structure("g", number(1))
	half := structure("h", part, part, part, part, structure("i"), structure("i"))
	half.Kids[4].Kids, half.Kids[5].Kids = half.Kids[:4], half.Kids[:3]
	// Of this size, a valid session has parts of its own in all places.
	whole := structure("f", structure("h", half.Kids[:4]...), structure("h", half.Kids[:4]...), structure("h", half.Kids[:4]...), structure("h", half.Kids[:4]...))
	large := structure("f", structure("k", whole, whole), structure("k", whole), part)
	if impl.CountNodes(whole) != 37 || impl.CountNodes(large) != 1+1+1+3*37+2 {
		t.Fatalf("the terms have %d and %d nodes", impl.CountNodes(whole), impl.CountNodes(large))
	}
	s := mustOpen(t, []impl.Clause{{Head: structure("p", large), Body: []impl.Term{structure("p", large)}}}, []impl.Term{structure("p", large)}, 5)
	s, _ = impl.SliceSession(s, 0)
	for _, x := range []impl.Term{s.Query[0], s.Program[0].Head, s.Program[0].Body[0]} {
		before := countNumber(s, 77)
		last := x.Kids[0].Kids[1].Kids[0].Kids[3].Kids[3].Kids
		last[0].N = 77
		if got := countNumber(s, 77); got != before+1 {
			t.Errorf("a part of a large term changes %d terms", got-before)
		}
	}
	// These have more nodes than a valid term, so that not all are copied wherever they occur.
	wide := structure("w", slices.Repeat([]impl.Term{structure("a")}, 200)...)
	short, long := structure("s"), structure("l")
	short.Kids, long.Kids = half.Kids[:2], half.Kids[:3]
	bad := impl.Session{Program: []impl.Clause{{Head: structure("f", wide, part, short, long, part, long, short)}, {Head: structure("p", part, short, long)}}, Query: []impl.Term{structure("p", short, long)}, Quota: 5, End: impl.Running}
	next, sent := impl.SliceSession(bad, 1)
	if !impl.SessionSame(next, bad) || len(sent) > 0 {
		t.Errorf("SliceSession = %v, %d answers", next, len(sent))
	}
	// A valid term has parts of its own nevertheless.
	head := next.Program[1].Head
	head.Kids[0].Kids[0].N = 77
	head.Kids[2].Kids[2].Kids[0].N = 77
	next.Query[0].Kids[0].Kids[1].Kids[0].N = 77
	if got := countNumber(next, 77); got != 3 {
		t.Errorf("parts of valid terms change %d terms", got)
	}
	overwrite(next.Program[0].Head.Kids)
	if got := countNumber(bad, 77) + countNumber(impl.Session{Query: []impl.Term{half, part}}, 77); got != 0 {
		t.Errorf("the result shares memory with an argument: %d terms were changed", got)
	}
}

// countNumber returns how many terms of s have n as their N.
func countNumber(s impl.Session, n int) int {
	var count func(list []impl.Term) int
	count = func(list []impl.Term) int {
		sum := 0
		for _, x := range list {
			if x.N == n {
				sum++
			}
			sum += count(x.Kids)
		}
		return sum
	}
	sum := count(s.Query)
	for _, c := range s.Program {
		sum += count([]impl.Term{c.Head}) + count(c.Body)
	}
	return sum
}

func TestSentAnswersShareNoMemory(t *testing.T) {
	const want = "A=f(g(1),A);B=f(g(1),A) & A=f(g(1),A);B=f(g(1),A) & A=f(g(1),A);B=f(g(1),A)"
	s := sharingSession()
	query := mustQuery(t, "p(A,B)")
	list := []impl.Session{s, s, s}
	drained, _ := impl.DrainSession(s, []int{1, 1})
	others, _ := impl.DrainSession(s, []int{1, 1})
	who, sent, ends := impl.RoundRobin(list, 4)
	again, sentAgain, endsAgain := impl.RoundRobin(list, 4)
	texts := formatAnswers(query, sent)
	overwriteSession(s)
	if got := formatAnswers(query, drained); got != want {
		t.Errorf("DrainSession = %s, or it shares memory with an argument", got)
	}
	if got := formatAnswers(query, sent); got != texts || len(sent) != 9 || !slices.Equal(who, again) || !slices.Equal(ends, endsAgain) {
		t.Errorf("RoundRobin = %v, %s, %v, or it shares memory with an argument", who, got, ends)
	}
	overwrite(drained[0].Values[0].Kids)
	overwrite(sent[0].Values[0].Kids)
	for i, a := range slices.Concat(drained, sent) {
		values := formatAll(a.Values)
		if i == 0 || i == 3 {
			if values != "f(77,77) f(g(1),A)" {
				t.Errorf("the values of the answer %d share memory: %s", i, values)
			}
		} else if values != "f(g(1),A) f(g(1),A)" {
			t.Errorf("the answer %d shares memory with another one: %s", i, values)
		}
	}
	overwriteAnswers(drained)
	overwriteAnswers(sent)
	for _, list := range [][]int{who, ends} {
		list = list[:cap(list)]
		for i := range list {
			list[i] = 99
		}
	}
	if formatAnswers(query, others) != want || formatAnswers(query, sentAgain) != texts {
		t.Errorf("two results share memory: %s and %s", formatAnswers(query, others), formatAnswers(query, sentAgain))
	}
	if slices.Contains(again, 99) || slices.Contains(endsAgain, 99) {
		t.Errorf("two results share memory: %v and %v", again, endsAgain)
	}
}

// TestSessionsChangeNothing has arguments with memory beyond their length.
func TestSessionsChangeNothing(t *testing.T) {
	kids := []impl.Term{structure("f", variable(4)), variable(9), number(7), number(8)}
	goal := impl.Term{Kind: impl.TermStruct, Name: "q", Kids: kids[:2]}
	goals := []impl.Term{goal, structure("!"), number(5), number(6)}
	p := []impl.Clause{{Head: goal, Body: goals[1:2]}, {Head: goal}, {Head: structure("last")}}
	fuels := []int{1, 0, -1, 2, 50, 60}
	sessions := []impl.Session{{Quota: 9}, {Quota: 8}, {Quota: 7}}
	for i, quota := range []int{3, 0} {
		sessions[i] = impl.Session{Program: p[:2], Query: goals[:2], Quota: quota, End: impl.Running}
	}
	bad := impl.Session{Program: p[:2], Query: goals[:3], Quota: 3, End: impl.Running}
	for _, s := range []impl.Session{sessions[0], sessions[1], bad} {
		impl.OpenSession(s.Program, s.Query, 5)
		impl.SessionValid(s)
		impl.SessionSame(s, sessions[0])
		for length := range 5 {
			impl.SliceSession(s, length)
			impl.DrainSession(s, fuels[:length])
		}
	}
	impl.RoundRobin(sessions[:2], 1)
	impl.RoundRobin([]impl.Session{sessions[0], bad}, 1)
	if got := formatAll(kids) + " " + formatAll(goals); got != "f(E) J 7 8 q(f(E),J) ! 5 6" {
		t.Errorf("an argument was changed: %s", got)
	}
	if got := impl.FormatProgram(p); got != "q(f(E),J):-!.\nq(f(E),J).\nlast.\n" {
		t.Errorf("an argument was changed: %s", got)
	}
	if !slices.Equal(fuels, []int{1, 0, -1, 2, 50, 60}) || sessions[0].Used != 0 || sessions[0].End != impl.Running || sessions[1].End != impl.Running || sessions[2].Quota != 7 {
		t.Errorf("an argument was changed: %v and %v", fuels, sessions)
	}
}
