package tests

import (
	"slices"
	"testing"

	"loop.example/prologserver/impl"
)

// greatestInt and leastInt are past all limits.
const (
	greatestInt = 1<<63 - 1
	leastInt    = -1 << 63
)

// sliced has searches with several answers, and with each end.
const sliced = `
p(1).
p(2).
p(3).
q(1).
q(A):-loop.
loop:-loop.
r(1):-true,true.
r(2):-true.
r(3).
g(1).
g(A):-g(f(A,A)).
big(1).
big(f(A,A,A,A)).
s(1).
s(A):-s(B),A is B+1.
`

// slicedQueries are queries for sliced, most of them with several answers.
var slicedQueries = []string{
	"p(A)", "p(A),A>1", "p(A),A>2", "p(A),p(B)", "p(A),p(B),p(C)", "p(A),!", "p(4)", "true", "fail", "!", "p(A),fail", "loop", "q(A)", "q(A),p(B)", "p(A),q(B)", "r(A)", "r(A),r(B)", "g(A)", "g(A),p(B)", "s(A)", "s(A),A>3", "p(A),loop", "r(A),true,true",
	"p(A),B is 1//(A-2)", "p(A),B is 499*A", "p(A),nosuch", "nosuch", "A is B", "p(A),r(B),B<A", "p(A),r(B),C is D", "p(A),arg(A,f(x,y),B),B<1", "p(A),r(B),B>1,nosuch", "r(A),B is 1//(A-3)", "big(A)", "big(A),big(B),A=f(B,C,D,E)", "p(A),A>5,loop",
}

func TestRunning(t *testing.T) {
	if impl.Running != -1 {
		t.Errorf("Running is %d", impl.Running)
	}
}

func TestOpenSession(t *testing.T) {
	p := programOf(t, sliced)
	most := slices.Repeat(mustProgram(t, "p(A):-p(B),p(C),!,p(D),p(E),p(F)."), impl.MaxClauses)
	for _, program := range [][]impl.Clause{p, nil, {}, most} {
		for _, query := range [][]impl.Term{nil, {}, mustQuery(t, "p(A),B is A+C"), mustQuery(t, "p(A),p(B),p(C),!,p(D),p(E)")} {
			for quota := -1; quota <= impl.MaxFuel+1; quota++ {
				s, ok := impl.OpenSession(program, query, quota)
				if quota < 0 || quota > impl.MaxFuel {
					if ok || !isZeroSession(s) {
						t.Errorf("OpenSession with the quota %d = %v, %v", quota, s, ok)
					}
					continue
				}
				if !ok || s.Quota != quota || s.Used != 0 || s.Sent != 0 || s.End != impl.Running {
					t.Errorf("OpenSession with the quota %d = %v, %v", quota, s, ok)
				}
				if impl.FormatProgram(s.Program) != impl.FormatProgram(program) || writeAll(s.Query) != writeAll(query) || len(s.Program) != len(program) || len(s.Query) != len(query) {
					t.Errorf("OpenSession with the quota %d = %s", quota, formatSession(s))
				}
				if !impl.SessionValid(s) {
					t.Errorf("SessionValid = false: %s", formatSession(s))
				}
			}
		}
	}
}

func isZeroSession(s impl.Session) bool {
	return len(s.Program) == 0 && len(s.Query) == 0 && s.Quota == 0 && s.Used == 0 && s.Sent == 0 && s.End == 0
}

func TestOpenSessionRefuses(t *testing.T) {
	p, query := mustProgram(t, "p(1)."), mustQuery(t, "p(A)")
	check := func(about string, p []impl.Clause, query []impl.Term, quota int) {
		t.Helper()
		if s, ok := impl.OpenSession(p, query, quota); ok || !isZeroSession(s) {
			t.Errorf("%s: OpenSession with the quota %d = %v, %v", about, quota, s, ok)
		}
	}
	for _, quota := range []int{-1, impl.MaxFuel + 1, greatestInt, leastInt} {
		check("a quota", p, query, quota)
		check("a quota, without goals", nil, nil, quota)
	}
	check("21 clauses", slices.Repeat(p, impl.MaxClauses+1), query, 10)
	for name, bad := range invalidClauses() {
		check(name, []impl.Clause{bad}, query, 10)
		check(name, []impl.Clause{p[0], bad}, nil, 0)
		check(name, []impl.Clause{bad, p[0]}, query, impl.MaxFuel)
	}
	for name, bad := range invalidQueries() {
		check(name, p, bad, 10)
		check(name, nil, bad, 0)
	}
	check("everything", []impl.Clause{{}}, []impl.Term{{}}, -1)
}

// step is a slice, and what a session is behind it.
type step struct {
	slice, used, sent int
	end, answers      string
}

// checkSteps gives a session slices, one after the other.
func checkSteps(t *testing.T, query string, quota int, steps ...step) {
	t.Helper()
	goals := []impl.Term{}
	if query != "" {
		goals = mustQuery(t, query)
	}
	s := mustOpen(t, programOf(t, sliced), goals, quota)
	program := impl.FormatProgram(s.Program)
	for i, x := range steps {
		next, sent := impl.SliceSession(s, x.slice)
		if next.Used != x.used || next.Sent != x.sent || sessionEnd(next.End) != x.end || next.Quota != quota || impl.FormatProgram(next.Program) != program || writeAll(next.Query) != query {
			t.Errorf("%s: the slice %d makes %s", query, i, formatSession(next))
		}
		if got := formatAnswers(goals, sent); got != x.answers || len(sent) != next.Sent-s.Sent {
			t.Errorf("%s: the slice %d sends %q, not %q", query, i, got, x.answers)
		}
		if !impl.SessionValid(next) {
			t.Errorf("%s: SessionValid = false behind the slice %d: %s", query, i, formatSession(next))
		}
		s = next
	}
}

// TestAnswersAtTheEdgesOfSlices has the query p(A),A>1, which takes p(A), 1>1, 2>1 for the first answer, and 3>1 for the second one.
func TestAnswersAtTheEdgesOfSlices(t *testing.T) {
	const query = "p(A),A>1"
	// At the last unit of a slice, and at the first one of the next slice.
	checkSteps(t, query, 100, step{3, 3, 1, "running", "A=2"}, step{1, 4, 2, "no", "A=3"}, step{1, 4, 2, "no", ""})
	checkSteps(t, query, 100, step{2, 2, 0, "running", ""}, step{1, 3, 1, "running", "A=2"}, step{50, 53, 2, "no", "A=3"})
	checkSteps(t, query, 100, step{2, 2, 0, "running", ""}, step{2, 4, 2, "no", "A=2 & A=3"})
	checkSteps(t, query, 100, step{1, 1, 0, "running", ""}, step{1, 2, 0, "running", ""}, step{1, 3, 1, "running", "A=2"}, step{1, 4, 2, "no", "A=3"}, step{1, 4, 2, "no", ""})
	checkSteps(t, query, 100, step{100, 100, 2, "no", "A=2 & A=3"})
	// One slice is as good as two.
	checkSteps(t, query, 100, step{4, 4, 2, "no", "A=2 & A=3"})
	// Without fuel, nothing happens, but to what needs no fuel.
	checkSteps(t, query, 100, step{0, 0, 0, "running", ""}, step{3, 3, 1, "running", "A=2"}, step{0, 3, 1, "running", ""}, step{0, 3, 1, "running", ""}, step{1, 4, 2, "no", "A=3"})
	checkSteps(t, "", 100, step{0, 0, 1, "no", "yes"}, step{1, 0, 1, "no", ""})
	checkSteps(t, "", 100, step{7, 7, 1, "no", "yes"}, step{0, 7, 1, "no", ""})
	checkSteps(t, "", 0, step{0, 0, 1, "no", "yes"})
	checkSteps(t, "", 0, step{1, 0, 1, "no", "yes"}, step{1, 0, 1, "no", ""})
}

// TestSlicesAtTheQuota has slices that end at the quota, before it and past it.
func TestSlicesAtTheQuota(t *testing.T) {
	const query = "p(A),A>1"
	checkSteps(t, query, 3, step{3, 3, 1, "fuel", "A=2"}, step{1, 3, 1, "fuel", ""})
	checkSteps(t, query, 3, step{2, 2, 0, "running", ""}, step{1, 3, 1, "fuel", "A=2"}, step{0, 3, 1, "fuel", ""})
	checkSteps(t, query, 3, step{2, 2, 0, "running", ""}, step{2, 3, 1, "fuel", "A=2"})
	checkSteps(t, query, 3, step{4, 3, 1, "fuel", "A=2"}, step{4, 3, 1, "fuel", ""})
	checkSteps(t, query, 4, step{4, 4, 2, "no", "A=2 & A=3"})
	checkSteps(t, query, 4, step{3, 3, 1, "running", "A=2"}, step{5, 4, 2, "no", "A=3"})
	checkSteps(t, query, 1, step{1, 1, 0, "fuel", ""})
	for _, slice := range []int{impl.MaxFuel, impl.MaxFuel + 1, greatestInt - 1, greatestInt} {
		checkSteps(t, query, 100, step{slice, 100, 2, "no", "A=2 & A=3"})
		checkSteps(t, query, 3, step{slice, 3, 1, "fuel", "A=2"}, step{slice, 3, 1, "fuel", ""})
		checkSteps(t, query, 3, step{1, 1, 0, "running", ""}, step{slice, 3, 1, "fuel", "A=2"})
		checkSteps(t, "loop", impl.MaxFuel, step{1, 1, 0, "running", ""}, step{slice, impl.MaxFuel, 0, "fuel", ""})
	}
	// A session without fuel runs until it is given a slice, though this has none.
	for _, slice := range []int{0, 1, greatestInt} {
		checkSteps(t, query, 0, step{slice, 0, 0, "fuel", ""}, step{slice, 0, 0, "fuel", ""})
		checkSteps(t, "nosuch", 0, step{-1, 0, 0, "running", ""}, step{slice, 0, 0, "fuel", ""})
	}
	for _, slice := range []int{-1, -2, -impl.MaxFuel, leastInt} {
		checkSteps(t, query, 100, step{slice, 0, 0, "running", ""}, step{3, 3, 1, "running", "A=2"}, step{slice, 3, 1, "running", ""}, step{1, 4, 2, "no", "A=3"}, step{slice, 4, 2, "no", ""})
		checkSteps(t, "", 100, step{slice, 0, 0, "running", ""}, step{0, 0, 1, "no", "yes"})
	}
}

// TestEndsOfSessions has a session for each end, and others with many answers.
func TestEndsOfSessions(t *testing.T) {
	// Answers come before the loop does.
	checkSteps(t, "q(A)", 10, step{1, 1, 1, "running", "A=1"}, step{8, 9, 1, "running", ""}, step{1, 10, 1, "fuel", ""})
	checkSteps(t, "q(A)", 10, step{10, 10, 1, "fuel", "A=1"})
	checkSteps(t, "p(A),q(B)", 5, step{1, 1, 0, "running", ""}, step{1, 2, 1, "running", "A=1;B=1"}, step{2, 4, 1, "running", ""}, step{9, 5, 1, "fuel", ""})
	// The answers are used up, with or without a goal that fails.
	checkSteps(t, "p(A)", 100, step{1, 1, 3, "no", "A=1 & A=2 & A=3"})
	checkSteps(t, "p(A)", 1, step{1, 1, 3, "no", "A=1 & A=2 & A=3"})
	checkSteps(t, "p(A),A<2", 100, step{2, 2, 1, "running", "A=1"}, step{1, 3, 1, "running", ""}, step{1, 4, 1, "no", ""})
	checkSteps(t, "p(A),!", 100, step{1, 1, 0, "running", ""}, step{1, 2, 1, "no", "A=1"})
	checkSteps(t, "fail", 100, step{0, 0, 0, "running", ""}, step{1, 1, 0, "no", ""})
	// Each p(C) finds three answers.
	checkSteps(t, "p(A),p(B),p(C)", 100, step{3, 3, 3, "running", "A=1;B=1;C=1 & A=1;B=1;C=2 & A=1;B=1;C=3"}, step{1, 4, 6, "running", "A=1;B=2;C=1 & A=1;B=2;C=2 & A=1;B=2;C=3"}, step{0, 4, 6, "running", ""}, step{5, 9, 18, "running", "A=1;B=3;C=1 & A=1;B=3;C=2 & A=1;B=3;C=3 & A=2;B=1;C=1 & A=2;B=1;C=2 & A=2;B=1;C=3 & A=2;B=2;C=1 & A=2;B=2;C=2 & A=2;B=2;C=3 & A=2;B=3;C=1 & A=2;B=3;C=2 & A=2;B=3;C=3"}, step{1, 10, 18, "running", ""}, step{1, 11, 20, "more", "A=3;B=1;C=1 & A=3;B=1;C=2"}, step{1, 11, 20, "more", ""})
	checkSteps(t, "p(A),p(B),p(C)", 10, step{9, 9, 18, "running", "A=1;B=1;C=1 & A=1;B=1;C=2 & A=1;B=1;C=3 & A=1;B=2;C=1 & A=1;B=2;C=2 & A=1;B=2;C=3 & A=1;B=3;C=1 & A=1;B=3;C=2 & A=1;B=3;C=3 & A=2;B=1;C=1 & A=2;B=1;C=2 & A=2;B=1;C=3 & A=2;B=2;C=1 & A=2;B=2;C=2 & A=2;B=2;C=3 & A=2;B=3;C=1 & A=2;B=3;C=2 & A=2;B=3;C=3"}, step{9, 10, 18, "fuel", ""})
	for _, c := range []struct {
		query, end, answers string
		goals               int
	}{
		{"p(A),B is 1//(A-2)", "zero", "A=1;B=-1", 3}, {"p(A),B is 499*A", "range", "A=1;B=499 & A=2;B=998", 4}, {"nosuch", "unknown", "", 1}, {"p(A),nosuch", "unknown", "", 2}, {"A is B", "inst", "", 1}, {"p(A),arg(A,f(1,x),B),B<2", "type", "A=1;B=1", 5}, {"g(A),p(B),fail", "large", "", 11}, {"p(4)", "no", "", 1},
	} {
		checkSteps(t, c.query, 100, step{c.goals - 1, c.goals - 1, countOf(c.answers), "running", c.answers}, step{1, c.goals, countOf(c.answers), c.end, ""}, step{1, c.goals, countOf(c.answers), c.end, ""})
		checkSteps(t, c.query, c.goals, step{c.goals, c.goals, countOf(c.answers), c.end, c.answers})
		checkSteps(t, c.query, c.goals-1, step{c.goals, c.goals - 1, countOf(c.answers), "fuel", c.answers})
	}
}

// countOf returns the number of answers in a text of formatAnswers.
func countOf(answers string) int {
	if answers == "" {
		return 0
	}
	count := 1
	for _, letter := range answers {
		if letter == '&' {
			count++
		}
	}
	return count
}

// TestMostAnswersOfSessions has 18 to 23 answers that are found one by one, and then a loop.
func TestMostAnswersOfSessions(t *testing.T) {
	for answers := 18; answers <= 23; answers++ {
		p := mustProgram(t, "a(0).", "a(A):-a(B),A is B+1.")
		query := append(mustQuery(t, "a(A),true"), structure("<", variable(0), number(answers)))
		s := mustOpen(t, p, query, impl.MaxFuel)
		count := 0
		for s.End == impl.Running {
			next, sent := impl.SliceSession(s, 1)
			for i, a := range sent {
				if formatAll(a.Values) != formatAll([]impl.Term{number(count + i)}) {
					t.Errorf("%d answers: the answer %d is %s", answers, count+i, formatAll(a.Values))
				}
			}
			count += len(sent)
			if next.Sent != count || next.Used != s.Used+1 || len(sent) > 1 {
				t.Fatalf("%d answers: %d were sent: %s", answers, count, formatSession(next))
			}
			s = next
		}
		want := impl.EndFuel
		if answers > impl.MaxAnswers {
			want = impl.EndMore
		}
		if s.End != want || count != min(answers, impl.MaxAnswers) {
			t.Errorf("%d answers: %d were sent: %s", answers, count, formatSession(s))
		}
	}
}

// TestSessionsStepByStep gives many slices to sessions for the queries above, and compares each with what the document says.
func TestSessionsStepByStep(t *testing.T) {
	t.Parallel()
	p := programOf(t, sliced)
	for _, text := range slicedQueries {
		query := mustQuery(t, text)
		for _, quota := range []int{0, 1, 2, 3, 5, 12, impl.MaxFuel} {
			for _, size := range []int{1, 2, 3, 50} {
				s := mustOpen(t, p, query, quota)
				for i := 0; s.End == impl.Running && i < 40; i++ {
					// Slices that change nothing come between the others.
					for _, slice := range []int{-1, 0, leastInt} {
						checkSlice(t, s, slice)
					}
					s = checkSlice(t, s, size)
				}
				checkSlice(t, s, 1)
				s = checkSlice(t, s, greatestInt)
				checkSlice(t, s, 0)
			}
		}
	}
}

// TestTwoSlicesAreOne compares two slices with one that is as long as both.
func TestTwoSlicesAreOne(t *testing.T) {
	t.Parallel()
	p := programOf(t, sliced)
	for _, text := range slicedQueries {
		for _, quota := range []int{0, 3, 10, 40, impl.MaxFuel} {
			s := mustOpen(t, p, mustQuery(t, text), quota)
			for _, first := range []int{0, 1, 2, 3, 5, 9, 30} {
				for _, second := range []int{0, 1, 2, 4, 10, 270} {
					half, sent := impl.SliceSession(s, first)
					whole, rest := impl.SliceSession(half, second)
					want, all := impl.SliceSession(s, first+second)
					// A session that has ended uses no more fuel.
					if half.End != impl.Running {
						whole.Used = want.Used
					}
					sent = append(sent, rest...)
					if formatSession(whole) != formatSession(want) || !slices.EqualFunc(sent, all, impl.AnswerSame) {
						t.Fatalf("slices of %d and %d send %q and make\n%s, not %q and\n%s", first, second, formatAnswers(s.Query, sent), formatSession(whole), formatAnswers(s.Query, all), formatSession(want))
					}
				}
			}
		}
	}
}
