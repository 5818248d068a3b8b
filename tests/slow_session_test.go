package tests

import (
	"fmt"
	"slices"
	"testing"

	"loop.example/prologserver/impl"
)

// slowFound returns what a session has found with some fuel, as the document says it.
func slowFound(s impl.Session, fuel int) ([]impl.Answer, int) {
	answers, end := impl.Solve(s.Program, s.Query, impl.MaxAnswers, fuel)
	if end == impl.EndFuel && fuel < s.Quota {
		end = impl.Running
	}
	return answers, end
}

// slowValid returns what SessionValid should return.
func slowValid(s impl.Session) bool {
	switch {
	case !impl.ProgramValid(s.Program) || !impl.QueryValid(s.Query):
		return false
	case s.Quota < 0 || s.Quota > impl.MaxFuel || s.Used < 0 || s.Used > s.Quota:
		return false
	case s.Used == 0 && s.Sent == 0 && s.End == impl.Running:
		return true
	}
	answers, end := slowFound(s, s.Used)
	return s.Sent == len(answers) && s.End == end
}

// slowSlice returns what SliceSession should return, but in the memory of s.
func slowSlice(s impl.Session, slice int) (impl.Session, []impl.Answer) {
	if !slowValid(s) || s.End != impl.Running || slice < 0 {
		return s, nil
	}
	before := s.Sent
	s.Used += min(slice, s.Quota-s.Used)
	answers, end := slowFound(s, s.Used)
	s.Sent, s.End = len(answers), end
	return s, answers[before:]
}

// slowDrain returns what DrainSession should return for a session that is valid.
func slowDrain(s impl.Session, list []int) ([]impl.Answer, int) {
	var all []impl.Answer
	for i := 0; s.End == impl.Running; i++ {
		slice := impl.MaxFuel
		if i < 100 && i < len(list) {
			slice = list[i]
		}
		var sent []impl.Answer
		s, sent = slowSlice(s, slice)
		all = append(all, sent...)
	}
	return all, s.End
}

// slowTurns returns what RoundRobin should return for sessions that are valid, and a slice of at least 1.
func slowTurns(list []impl.Session, slice int) ([]int, []impl.Answer, []int) {
	var who []int
	var all []impl.Answer
	list = slices.Clone(list)
	isRunning := func(s impl.Session) bool { return s.End == impl.Running }
	for slices.ContainsFunc(list, isRunning) {
		for i, s := range list {
			if !isRunning(s) {
				continue
			}
			var sent []impl.Answer
			list[i], sent = slowSlice(s, slice)
			for _, a := range sent {
				who, all = append(who, i), append(all, a)
			}
		}
	}
	var ends []int
	for _, s := range list {
		ends = append(ends, s.End)
	}
	return who, all, ends
}

// sessionEnd returns the name of the End of a session.
func sessionEnd(end int) string {
	if end == impl.Running {
		return "running"
	}
	return endName(end)
}

// formatSession returns all that a session with a valid program and a valid query has.
func formatSession(s impl.Session) string {
	return fmt.Sprintf("%d of %d used, %d sent, %s, of %s for\n%s", s.Used, s.Quota, s.Sent, sessionEnd(s.End), writeAll(s.Query), impl.FormatProgram(s.Program))
}

// sameSession returns what SessionSame should return for sessions with valid programs and queries.
func sameSession(a impl.Session, b impl.Session) bool {
	numbers := a.Quota == b.Quota && a.Used == b.Used && a.Sent == b.Sent && a.End == b.End
	return numbers && slices.EqualFunc(a.Program, b.Program, impl.ClauseSame) && slices.EqualFunc(a.Query, b.Query, impl.TermSame)
}

// mustOpen returns a session before its first slice.
func mustOpen(t *testing.T, p []impl.Clause, query []impl.Term, quota int) impl.Session {
	t.Helper()
	s, ok := impl.OpenSession(p, query, quota)
	if !ok {
		t.Fatalf("OpenSession(%s, %d) = %v for\n%s", writeAll(query), quota, ok, impl.FormatProgram(p))
	}
	return s
}

// checkSlice compares SliceSession with slowSlice, and returns the session behind the slice.
func checkSlice(t *testing.T, s impl.Session, slice int) impl.Session {
	t.Helper()
	want, wantSent := slowSlice(s, slice)
	got, sent := impl.SliceSession(s, slice)
	if !sameSession(got, want) || !slices.EqualFunc(sent, wantSent, impl.AnswerSame) {
		t.Fatalf("a slice of %d sends %q, not %q, and makes\n%s, not\n%s, of\n%s", slice, formatAnswers(s.Query, sent), formatAnswers(s.Query, wantSent), formatSession(got), formatSession(want), formatSession(s))
	}
	if valid := impl.SessionValid(got); valid != slowValid(want) {
		t.Fatalf("SessionValid = %v behind a slice of %d: %s", valid, slice, formatSession(got))
	}
	return got
}

// drained returns what DrainSession does. A session that is Running for ever fails the test.
func drained(t *testing.T, s impl.Session, list []int) (answers []impl.Answer, end int) {
	t.Helper()
	inTime(t, func() { answers, end = impl.DrainSession(s, list) })
	return answers, end
}

// checkDrain checks that DrainSession sends some answers and returns an end.
func checkDrain(t *testing.T, s impl.Session, list []int, want []impl.Answer, wantEnd int) {
	t.Helper()
	if got, end := drained(t, s, list); end != wantEnd || !slices.EqualFunc(got, want, impl.AnswerSame) {
		t.Fatalf("DrainSession with %d slices %v = %q, %s, not %q, %s, of %s", len(list), list[:min(len(list), 20)], formatAnswers(s.Query, got), sessionEnd(end), formatAnswers(s.Query, want), sessionEnd(wantEnd), formatSession(s))
	}
}

// slicings returns slices of many sizes: none, without fuel, negative ones, more than a hundred, and ones that are too large.
func slicings() [][]int {
	zeros, ones := slices.Repeat([]int{0}, 99), slices.Repeat([]int{1}, 400)
	return [][]int{nil, {}, {0}, {1}, {2}, {impl.MaxFuel}, {-1}, {impl.MaxFuel + 1}, {1<<63 - 1}, {-1 << 63}, {1, 1<<63 - 1}, {0, 1, 0, 1, 1<<63 - 1, 1<<63 - 1}, {-1, 1, -300, 0, 2, -1 << 63, 3, 5}, zeros, ones, ones[:100], ones[:101], append(zeros, ones...), append(zeros, -1, 2, impl.MaxFuel), {7, 1, 1, 0, 4, 40, -2, 90, 1}, slices.Repeat([]int{-3, 2, 0}, 60), slices.Repeat([]int{3}, 99), slices.Repeat([]int{-1}, 120)}
}

// compareDrains compares DrainSession with Solve, with the same fuel.
func compareDrains(t *testing.T, p []impl.Clause, query []impl.Term, quota int, lists [][]int) {
	t.Helper()
	want, end := impl.Solve(p, query, impl.MaxAnswers, quota)
	s := mustOpen(t, p, query, quota)
	for _, list := range lists {
		checkDrain(t, s, list, want, end)
	}
}

// compareSessions compares DrainSession with Solve for every quota that can matter.
func compareSessions(t *testing.T, p []impl.Clause, query []impl.Term) {
	t.Helper()
	for _, quota := range fuelsFor(p, query) {
		switch {
		case quota < 0 || quota > impl.MaxFuel:
			continue
		case quota < 30 || quota == impl.MaxFuel:
			compareDrains(t, p, query, quota, slicings())
		default:
			// All slices would take too long here.
			compareDrains(t, p, query, quota, [][]int{{quota - 1, 0, 1}, {quota, 1}, slices.Repeat([]int{1}, 99), {5, 5, -5, 0, 10, 20}})
		}
	}
}
