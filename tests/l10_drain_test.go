package tests

import (
	"slices"
	"testing"

	"loop.example/prologserver/impl"
)

func TestDrainSession(t *testing.T) {
	p := programOf(t, sliced)
	for _, c := range []struct {
		query        string
		quota        int
		answers, end string
	}{
		{"p(A),A>1", 300, "A=2 & A=3", "no"}, {"p(A),A>1", 4, "A=2 & A=3", "no"}, {"p(A),A>1", 3, "A=2", "fuel"}, {"p(A),A>1", 2, "", "fuel"}, {"p(A),A>1", 0, "", "fuel"}, {"p(A)", 1, "A=1 & A=2 & A=3", "no"}, {"p(A)", 0, "", "fuel"}, {"q(A)", 300, "A=1", "fuel"}, {"q(A)", 1, "A=1", "fuel"}, {"loop", 300, "", "fuel"}, {"", 300, "yes", "no"}, {"", 0, "yes", "no"},
		{"p(A),B is 1//(A-2)", 300, "A=1;B=-1", "zero"}, {"p(A),B is 1//(A-2)", 2, "A=1;B=-1", "fuel"}, {"nosuch", 1, "", "unknown"}, {"nosuch", 0, "", "fuel"}, {"r(A)", 4, "A=1 & A=2 & A=3", "no"}, {"r(A)", 3, "A=1", "fuel"}, {"p(A),B is 499*A", 300, "A=1;B=499 & A=2;B=998", "range"}, {"s(A),A>18", 300, "A=19 & A=20 & A=21 & A=22 & A=23", "fuel"}, {"s(A),A>18", 209, "A=19", "fuel"}, {"s(A),A>18", 208, "", "fuel"},
	} {
		var query []impl.Term
		if c.query != "" {
			query = mustQuery(t, c.query)
		}
		s := mustOpen(t, p, query, c.quota)
		for _, list := range slicings() {
			if sent, end := drained(t, s, list); formatAnswers(query, sent) != c.answers || endName(end) != c.end {
				t.Errorf("DrainSession with %v = %q, %s, not %q, %s, of %s", list, formatAnswers(query, sent), sessionEnd(end), c.answers, c.end, formatSession(s))
			}
		}
	}
}

// TestSessionsAreDrainedFromAnywhere drains sessions behind some slices: only what was not sent yet is sent.
func TestSessionsAreDrainedFromAnywhere(t *testing.T) {
	t.Parallel()
	p := programOf(t, sliced)
	lists := [][]int{nil, {1, 1, 1}, {0, -1, 2}, slices.Repeat([]int{1}, 400), {greatestInt}}
	for _, text := range slicedQueries {
		query := mustQuery(t, text)
		for _, quota := range []int{0, 2, 9, 33, impl.MaxFuel} {
			all, end := impl.Solve(p, query, impl.MaxAnswers, quota)
			s := mustOpen(t, p, query, quota)
			for range 50 {
				checkDrain(t, s, lists[0], all[s.Sent:], end)
				if s.End != impl.Running {
					break
				}
				for _, list := range lists[1:] {
					checkDrain(t, s, list, all[s.Sent:], end)
				}
				s, _ = impl.SliceSession(s, 1)
			}
			// A session that has ended sends nothing more.
			s, _ = impl.SliceSession(s, impl.MaxFuel)
			if s.End != end || s.Sent != len(all) {
				t.Errorf("the search ends with %s and %d answers, but not %s", endName(end), len(all), formatSession(s))
			}
			for _, list := range lists {
				checkDrain(t, s, list, nil, end)
			}
		}
	}
}

// slice returns a slice that is often small.
func (s *source) slice() int {
	switch s.below(12) {
	case 0:
		return -1 - s.below(5)
	case 1, 2:
		return 0
	case 3, 4, 5, 6:
		return 1
	case 7:
		return s.below(impl.MaxFuel + 2)
	case 8:
		return greatestInt - s.below(3)
	}
	return 1 + s.below(6)
}

// manySlices returns up to 130 slices.
func (s *source) manySlices() []int {
	list := make([]int, s.below(s.below(129)+2))
	for i := range list {
		list[i] = s.slice()
	}
	return list
}

// TestManySessions compares random sessions with searches, with random slices and all together.
func TestManySessions(t *testing.T) {
	t.Parallel()
	s := source{state: 71}
	met := make([]int, len(endNames))
	several, edges := 0, 0
	for range 3500 {
		p, query, quota := s.knownProgram(), s.knownQuery(), s.below(60)
		if s.below(4) == 0 {
			quota = s.below(impl.MaxFuel + 1)
		}
		want, end := impl.Solve(p, query, impl.MaxAnswers, quota)
		met[end]++
		compareDrains(t, p, query, quota, [][]int{nil, {0}, slices.Repeat([]int{1}, 100), slices.Repeat([]int{1}, 301), {impl.MaxFuel}, s.manySlices(), s.manySlices(), s.manySlices()})
		x := mustOpen(t, p, query, quota)
		var all []impl.Answer
		batches := 0
		// Every eighth slice can be a large one, so that there is an end.
		for i := 0; x.End == impl.Running; i++ {
			slice := s.below(3)
			if i%8 == 7 {
				slice = s.slice()
			}
			next := checkSlice(t, x, slice)
			again, sent := impl.SliceSession(x, slice)
			if !impl.SessionSame(again, next) {
				t.Fatalf("a slice of %d makes two sessions of %s", slice, formatSession(x))
			}
			if len(sent) > 0 {
				batches++
				// An answer is often found with the last unit only.
				if less, _ := impl.SliceSession(x, slice-1); slice > 0 && less.Sent < next.Sent {
					edges++
				}
			}
			x, all = next, append(all, sent...)
		}
		if x.End != end || !slices.EqualFunc(all, want, impl.AnswerSame) {
			t.Fatalf("slices send %q, not %q, %s, and end with %s", formatAnswers(query, all), formatAnswers(query, want), endName(end), formatSession(x))
		}
		if batches > 1 {
			several++
		}
	}
	for end, count := range met[:impl.EndInvalid] {
		if count == 0 {
			t.Errorf("no session has the end %s", endName(end))
		}
	}
	if several < 200 || edges < 1000 {
		t.Errorf("only %d sessions send answers in several slices, and %d slices have an answer at their end", several, edges)
	}
}

// TestRandomValidity changes the fields of sessions at random, a little or a lot.
func TestRandomValidity(t *testing.T) {
	t.Parallel()
	s := source{state: 72}
	counts := map[bool]int{}
	for range 1500 {
		p, query, quota := s.knownProgram(), s.knownQuery(), s.below(60)
		x := mustOpen(t, p, query, quota)
		for range s.below(4) {
			x, _ = impl.SliceSession(x, s.slice())
		}
		for range 20 {
			y := x
			switch s.below(6) {
			case 0:
				y.Quota = s.below(70) - 3
			case 1:
				y.Used = s.below(70) - 3
			case 2:
				y.Sent += s.below(5) - 2
			case 3:
				y.End = s.below(12) - 2
			case 4:
				y.Program = s.knownProgram()
			case 5:
				y.Query = s.knownQuery()
			}
			want := slowValid(y)
			if got := impl.SessionValid(y); got != want {
				t.Fatalf("SessionValid = %v: %s", got, formatSession(y))
			}
			counts[want]++
			checkSlice(t, y, s.slice())
		}
	}
	if counts[true] < 3000 || counts[false] < 3000 {
		t.Errorf("%d sessions are valid, and %d are not", counts[true], counts[false])
	}
}

// TestManySlices has more slices than a session is given.
func TestManySlices(t *testing.T) {
	p := programOf(t, sliced)
	for _, text := range []string{"p(A),A>1", "q(A)", "loop", "p(A),p(B),p(C)"} {
		s := mustOpen(t, p, mustQuery(t, text), impl.MaxFuel)
		for _, slice := range []int{0, -1, 1, 2, 3} {
			for _, length := range []int{98, 99, 100, 101, 102, 200, 1000000} {
				list := slices.Repeat([]int{slice}, length)
				want, end := impl.Solve(p, s.Query, impl.MaxAnswers, impl.MaxFuel)
				checkDrain(t, s, list, want, end)
				if list[0] != slice || list[length-1] != slice {
					t.Errorf("an argument was changed")
				}
			}
		}
	}
}
