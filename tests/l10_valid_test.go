package tests

import (
	"fmt"
	"slices"
	"testing"

	"loop.example/prologserver/impl"
)

// changedSessions returns sessions that differ from s in one field, by what is changed.
func changedSessions(t *testing.T, s impl.Session) map[string]impl.Session {
	t.Helper()
	changed := map[string]impl.Session{}
	for _, n := range []int{leastInt, -impl.MaxFuel, -2, -1, 0, 1, 2, 3, 4, 5, 8, 9, 10, 19, 20, 21, 39, 40, impl.MaxFuel - 1, impl.MaxFuel, impl.MaxFuel + 1, greatestInt, s.Quota - 1, s.Quota + 1, s.Used - 1, s.Used + 1, s.Sent - 1, s.Sent + 1, s.End + 1} {
		quota, used, sent, end := s, s, s, s
		quota.Quota, used.Used, sent.Sent, end.End = n, n, n, n
		for name, x := range map[string]impl.Session{"Quota": quota, "Used": used, "Sent": sent, "End": end} {
			changed[fmt.Sprint(name, " ", n)] = x
		}
	}
	for i, p := range [][]impl.Clause{nil, mustProgram(t, "p(1)."), mustProgram(t, "p(1).", "p(2).", "p(3).", "p(4)."), append(mustProgram(t, "p(0).", "r(7)."), s.Program...), slices.Repeat(mustProgram(t, "p(A)."), impl.MaxClauses)} {
		x := s
		x.Program = p
		changed[fmt.Sprint("Program ", i)] = x
	}
	for i, text := range []string{"true", "p(A)", "p(A),p(B)", "loop", "q(A)", "nosuch", "r(A),r(B)"} {
		x := s
		x.Query = mustQuery(t, text)
		changed[fmt.Sprint("Query ", i)] = x
	}
	return changed
}

// checkValid compares SessionValid with slowValid for s and all sessions that differ from it in one field.
// It counts those that are valid and those that are not, by the field.
func checkValid(t *testing.T, s impl.Session, counts map[string]int) {
	t.Helper()
	if !impl.SessionValid(s) || !slowValid(s) {
		t.Fatalf("SessionValid = %v: %s", impl.SessionValid(s), formatSession(s))
	}
	for name, x := range changedSessions(t, s) {
		want := slowValid(x)
		if got := impl.SessionValid(x); got != want {
			t.Fatalf("%s: SessionValid = %v: %s", name, got, formatSession(x))
		}
		var field string
		fmt.Sscan(name, &field)
		counts[fmt.Sprint(field, " ", want)]++
		// Where a session is not valid, nothing happens.
		if want {
			continue
		}
		if next, sent := impl.SliceSession(x, 1); len(sent) > 0 || !impl.SessionSame(next, x) {
			t.Fatalf("%s: SliceSession = %s, %q, for %s", name, formatSession(next), formatAnswers(x.Query, sent), formatSession(x))
		}
		if sent, end := impl.DrainSession(x, []int{1}); len(sent) > 0 || end != impl.EndInvalid {
			t.Fatalf("%s: DrainSession = %q, %s, for %s", name, formatAnswers(x.Query, sent), sessionEnd(end), formatSession(x))
		}
	}
}

// TestSessionsWithOneFieldChanged has sessions as they are opened, and those that are reached by slices.
func TestSessionsWithOneFieldChanged(t *testing.T) {
	t.Parallel()
	p := programOf(t, sliced)
	counts := map[string]int{}
	for _, text := range slicedQueries {
		for _, quota := range []int{0, 4, 40, impl.MaxFuel} {
			s := mustOpen(t, p, mustQuery(t, text), quota)
			checkValid(t, s, counts)
			for _, slice := range []int{0, 1, 1, 2, 30} {
				s, _ = impl.SliceSession(s, slice)
				checkValid(t, s, counts)
			}
		}
	}
	for _, field := range []string{"Quota", "Used", "Sent", "End", "Program", "Query"} {
		if counts[field+" true"] < 10 || counts[field+" false"] < 1000 {
			t.Errorf("%d sessions with another %s are valid, and %d are not", counts[field+" true"], field, counts[field+" false"])
		}
	}
}

// TestSessionsThatWereNeverSliced has sessions that are valid or not by what they would have found.
func TestSessionsThatWereNeverSliced(t *testing.T) {
	p := programOf(t, sliced)
	for _, c := range []struct {
		query             string
		quota, used, sent int
		end               string
		valid             bool
	}{
		{"p(A),A>1", 100, 2, 0, "running", true}, {"p(A),A>1", 100, 3, 0, "running", false}, {"p(A),A>1", 100, 3, 1, "running", true}, {"p(A),A>1", 100, 3, 2, "running", false}, {"p(A),A>1", 100, 4, 1, "running", false}, {"p(A),A>1", 100, 4, 2, "running", false}, {"p(A),A>1", 100, 4, 2, "no", true}, {"p(A),A>1", 100, 100, 2, "no", true}, {"p(A),A>1", 100, 101, 2, "no", false}, {"p(A),A>1", 100, 4, 0, "no", false},
		// A session that used up its quota does not go on.
		{"p(A),A>1", 3, 3, 1, "running", false}, {"p(A),A>1", 3, 3, 1, "fuel", true}, {"p(A),A>1", 4, 3, 1, "fuel", false}, {"p(A),A>1", 3, 2, 0, "fuel", false}, {"p(A),A>1", 3, 2, 0, "running", true}, {"loop", 300, 299, 0, "running", true}, {"loop", 300, 300, 0, "running", false}, {"loop", 300, 300, 0, "fuel", true}, {"loop", 299, 300, 0, "fuel", false},
		// As it is opened, or behind a slice without fuel.
		{"p(A)", 100, 0, 0, "running", true}, {"p(A)", 100, 0, 0, "fuel", false}, {"p(A)", 100, 0, 0, "no", false}, {"p(A)", 0, 0, 0, "running", true}, {"p(A)", 0, 0, 0, "fuel", true}, {"p(A)", 0, 0, 0, "no", false}, {"p(A)", 0, 0, 1, "running", false}, {"p(A)", 1, 0, 3, "no", false},
		{"", 100, 0, 0, "running", true}, {"", 100, 0, 1, "no", true}, {"", 100, 0, 0, "no", false}, {"", 100, 0, 1, "running", false}, {"", 100, 1, 0, "running", false}, {"", 100, 1, 1, "no", true}, {"", 0, 0, 0, "running", true}, {"", 0, 0, 1, "no", true}, {"", 0, 0, 0, "fuel", false},
		{"q(A)", 10, 1, 1, "running", true}, {"q(A)", 10, 1, 0, "running", false}, {"q(A)", 10, 10, 1, "fuel", true}, {"p(A),p(B),p(C)", 300, 11, 20, "more", true}, {"p(A),p(B),p(C)", 300, 11, 21, "more", false}, {"p(A),p(B),p(C)", 300, 10, 18, "more", false}, {"p(A),p(B),p(C)", 300, 11, 20, "fuel", false}, {"nosuch", 5, 1, 0, "unknown", true}, {"nosuch", 5, 0, 0, "unknown", false}, {"nosuch", 5, 1, 0, "invalid", false}, {"nosuch", 5, 5, 0, "unknown", true},
	} {
		s := impl.Session{Program: p, Quota: c.quota, Used: c.used, Sent: c.sent, End: slices.Index(endNames, c.end)}
		if c.query != "" {
			s.Query = mustQuery(t, c.query)
		}
		if got := impl.SessionValid(s); got != c.valid {
			t.Errorf("SessionValid = %v: %s", got, formatSession(s))
		}
		// It goes on as if it had been sliced.
		for _, slice := range []int{-1, 0, 1, 2, 5, impl.MaxFuel} {
			checkSlice(t, s, slice)
		}
		if c.valid {
			want, end := slowDrain(s, nil)
			for _, list := range slicings() {
				checkDrain(t, s, list, want, end)
			}
		}
	}
}

// invalidSessions returns sessions with a program or a query that is not valid, or a number past all limits.
func invalidSessions(t *testing.T) map[string]impl.Session {
	t.Helper()
	fine := mustOpen(t, mustProgram(t, "p(1).", "p(f(A)):-p(A)."), mustQuery(t, "p(A)"), 10)
	bad := map[string]impl.Session{"the zero value": {}, "nothing but Running": {End: impl.Running, Quota: -1}}
	add := func(name string, change func(s *impl.Session)) {
		for _, used := range []int{0, 1, 10} {
			s, _ := impl.SliceSession(fine, used)
			change(&s)
			bad[fmt.Sprint(name, ", used ", used)] = s
		}
	}
	for name, c := range invalidClauses() {
		add(name+" in a program", func(s *impl.Session) { s.Program = append(slices.Clone(s.Program), c) })
		add(name+" as a program", func(s *impl.Session) { s.Program = []impl.Clause{c} })
	}
	for name, query := range invalidQueries() {
		add(name+" as a query", func(s *impl.Session) { s.Query = query })
	}
	add("21 clauses", func(s *impl.Session) { s.Program = slices.Repeat(s.Program[:1], impl.MaxClauses+1) })
	for _, n := range []int{-1, leastInt, impl.MaxFuel + 1, greatestInt} {
		add(fmt.Sprint("the quota ", n), func(s *impl.Session) { s.Quota = n })
		add(fmt.Sprint("the fuel ", n), func(s *impl.Session) { s.Used = n })
		add(fmt.Sprint("all ", n), func(s *impl.Session) { s.Quota, s.Used = n, n })
		add(fmt.Sprint("the number of answers ", n), func(s *impl.Session) { s.Sent = n })
		add(fmt.Sprint("the end ", n-1), func(s *impl.Session) { s.End = n - 1 })
	}
	add("another end", func(s *impl.Session) { s.End = impl.EndInvalid })
	return bad
}

func TestInvalidSessions(t *testing.T) {
	fine := mustOpen(t, mustProgram(t, "p(1)."), mustQuery(t, "p(A)"), 10)
	for name, bad := range invalidSessions(t) {
		if impl.SessionValid(bad) {
			t.Errorf("%s: SessionValid = true", name)
		}
		for _, slice := range []int{-1, 0, 1, impl.MaxFuel, greatestInt} {
			if next, sent := impl.SliceSession(bad, slice); len(sent) > 0 || !impl.SessionSame(next, bad) {
				t.Errorf("%s: SliceSession with %d = %d of %d used, %d sent, %s, and %d answers", name, slice, next.Used, next.Quota, next.Sent, sessionEnd(next.End), len(sent))
			}
		}
		for _, list := range [][]int{nil, {1}, {-1, 0, greatestInt}} {
			if sent, end := impl.DrainSession(bad, list); len(sent) > 0 || end != impl.EndInvalid {
				t.Errorf("%s: DrainSession with %v = %d answers, %s", name, list, len(sent), sessionEnd(end))
			}
		}
		for _, list := range [][]impl.Session{{bad}, {fine, bad}, {bad, fine}, {fine, fine, bad, fine}} {
			if who, sent, ends := impl.RoundRobin(list, 1); len(who) > 0 || len(sent) > 0 || len(ends) > 0 {
				t.Errorf("%s: RoundRobin of %d sessions = %v, %d answers, %v", name, len(list), who, len(sent), ends)
			}
		}
	}
}
