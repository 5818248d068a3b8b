package tests

import (
	"fmt"
	"runtime"
	"slices"
	"strings"
	"testing"
	"time"

	"loop.example/prologserver/impl"
)

// openAll opens sessions for sliced, each with a quota and a query.
func openAll(t *testing.T, rows ...string) []impl.Session {
	t.Helper()
	var list []impl.Session
	for _, row := range rows {
		var quota int
		var text string
		fmt.Sscan(row, &quota, &text)
		_, text, _ = strings.Cut(row, " ")
		list = append(list, mustOpen(t, programOf(t, sliced), mustQuery(t, text), quota))
	}
	return list
}

// formatTurns returns what a round of turns sent, with the index of its session in front of each answer, and the ends.
func formatTurns(list []impl.Session, who []int, sent []impl.Answer, ends []int) string {
	if len(who) != len(sent) {
		return fmt.Sprintf("%d indexes and %d answers", len(who), len(sent))
	}
	var words []string
	for i, a := range sent {
		words = append(words, fmt.Sprint(who[i], ":", impl.FormatAnswer(list[who[i]].Query, a)))
	}
	for _, end := range ends {
		words = append(words, sessionEnd(end))
	}
	return strings.Join(words, " ")
}

// turned returns what RoundRobin does. A session that is Running for ever fails the test.
func turned(t *testing.T, list []impl.Session, slice int) (who []int, sent []impl.Answer, ends []int) {
	t.Helper()
	inTime(t, func() { who, sent, ends = impl.RoundRobin(list, slice) })
	return who, sent, ends
}

// checkTurns compares RoundRobin with slowTurns.
func checkTurns(t *testing.T, list []impl.Session, slice int) {
	t.Helper()
	who, sent, ends := turned(t, list, slice)
	wantWho, wantSent, wantEnds := slowTurns(list, slice)
	if !slices.Equal(who, wantWho) || !slices.EqualFunc(sent, wantSent, impl.AnswerSame) || !slices.Equal(ends, wantEnds) {
		var texts []string
		for _, s := range list {
			texts = append(texts, formatSession(s))
		}
		t.Fatalf("RoundRobin with %d = %s, not %s, for\n%s", slice, formatTurns(list, who, sent, ends), formatTurns(list, wantWho, wantSent, wantEnds), strings.Join(texts, "\n"))
	}
}

func TestRoundRobin(t *testing.T) {
	for _, c := range []struct {
		rows  []string
		slice int
		want  string
	}{
		// p(A),A>1 sends A=2 with its third unit and A=3 with its fourth one.
		{[]string{"100 p(A),A>1", "100 p(A),A>1"}, 1, "0:A=2 1:A=2 0:A=3 1:A=3 no no"}, {[]string{"100 p(A),A>1", "100 p(A),A>1"}, 2, "0:A=2 0:A=3 1:A=2 1:A=3 no no"}, {[]string{"100 p(A),A>1", "100 p(A),A>1"}, 3, "0:A=2 1:A=2 0:A=3 1:A=3 no no"}, {[]string{"100 p(A),A>1", "100 p(A),A>1"}, 4, "0:A=2 0:A=3 1:A=2 1:A=3 no no"}, {[]string{"100 p(A),A>1", "3 p(A),A>1"}, 1, "0:A=2 1:A=2 0:A=3 no fuel"},
		// r(A) sends A=1 with its third unit, and A=2 and A=3 with its fourth one.
		{[]string{"100 p(A)", "100 r(A)", "100 p(A),A>1"}, 1, "0:A=1 0:A=2 0:A=3 1:A=1 2:A=2 1:A=2 1:A=3 2:A=3 no no no"}, {[]string{"100 r(A)", "100 p(A),A>1", "100 p(A)"}, 1, "2:A=1 2:A=2 2:A=3 0:A=1 1:A=2 0:A=2 0:A=3 1:A=3 no no no"}, {[]string{"100 r(A)", "100 p(A),A>1", "100 p(A)"}, 2, "2:A=1 2:A=2 2:A=3 0:A=1 0:A=2 0:A=3 1:A=2 1:A=3 no no no"},
		// A session that never ends is there to the end, and one that sends nothing, too.
		{[]string{"300 loop", "100 p(A),A>2"}, 1, "1:A=3 fuel no"}, {[]string{"300 q(A)", "100 p(A),A>1", "0 p(A)"}, 1, "0:A=1 1:A=2 1:A=3 fuel no fuel"}, {[]string{"4 p(A),r(B)", "2 nosuch", "1 nosuch", "0 nosuch"}, 1, "0:A=1;B=1 fuel unknown unknown fuel"}, {[]string{"9 p(A),B is 1//(A-2)", "9 p(A),B is 499*A"}, 1, "0:A=1;B=-1 1:A=1;B=499 1:A=2;B=998 zero range"},
		{[]string{"100 p(A)"}, 1, "0:A=1 0:A=2 0:A=3 no"}, {[]string{"0 p(A)"}, 1, "fuel"}, {[]string{"100 true", "100 true", "100 true", "100 true", "100 true", "100 true", "100 true", "100 true"}, 1, "0:yes 1:yes 2:yes 3:yes 4:yes 5:yes 6:yes 7:yes no no no no no no no no"},
	} {
		list := openAll(t, c.rows...)
		who, sent, ends := turned(t, list, c.slice)
		if got := formatTurns(list, who, sent, ends); got != c.want {
			t.Errorf("RoundRobin of %q with %d = %s, not %s", c.rows, c.slice, got, c.want)
		}
		for _, slice := range []int{1, 2, 3, 4, 5, 6, 7, impl.MaxFuel - 1, impl.MaxFuel, impl.MaxFuel + 1, greatestInt} {
			checkTurns(t, list, slice)
		}
	}
}

// TestTurnsOfEndedSessions has sessions that have ended when the turns begin, and others that have sent answers before.
func TestTurnsOfEndedSessions(t *testing.T) {
	for _, first := range []int{0, 3, 4, impl.MaxFuel} {
		for _, second := range []int{0, 2, impl.MaxFuel} {
			list := openAll(t, "100 p(A),A>1", "7 r(A)", "3 p(A),A>1", "0 true", "50 q(A)", "300 p(A),p(B),p(C)")
			for i, s := range list {
				list[i], _ = impl.SliceSession(s, []int{first, second}[i%2])
			}
			for _, slice := range []int{1, 2, 3, 11, greatestInt} {
				checkTurns(t, list, slice)
				checkTurns(t, list[:3], slice)
				checkTurns(t, list[3:], slice)
			}
		}
	}
	list := openAll(t, "4 p(A),A>1", "0 p(A)", "9 nosuch", "11 p(A),p(B),p(C)")
	for i, s := range list {
		list[i], _ = impl.SliceSession(s, impl.MaxFuel)
	}
	who, sent, ends := turned(t, list, 1)
	if len(who) > 0 || len(sent) > 0 || !slices.Equal(ends, []int{impl.EndNo, impl.EndFuel, impl.EndUnknown, impl.EndMore}) {
		t.Errorf("RoundRobin of sessions that have ended = %s", formatTurns(list, who, sent, ends))
	}
}

// TestTurnsThatAreRefused has slices without fuel, too many sessions, and sessions that are not valid.
func TestTurnsThatAreRefused(t *testing.T) {
	rows := slices.Repeat([]string{"100 p(A),A>1"}, 9)
	for length := range 12 {
		list := openAll(t, rows[:min(length, 9)]...)
		for len(list) < length {
			list = append(list, list[0])
		}
		for _, slice := range []int{1, 2, impl.MaxFuel, greatestInt} {
			who, sent, ends := turned(t, list, slice)
			if length > 8 {
				if len(who) > 0 || len(sent) > 0 || len(ends) > 0 {
					t.Errorf("RoundRobin of %d sessions = %s", length, formatTurns(list, who, sent, ends))
				}
				continue
			}
			if len(who) != 2*length || len(sent) != 2*length || len(ends) != length {
				t.Errorf("RoundRobin of %d sessions = %s", length, formatTurns(list, who, sent, ends))
			}
			checkTurns(t, list, slice)
		}
		for _, slice := range []int{0, -1, -impl.MaxFuel, leastInt} {
			if who, sent, ends := turned(t, list, slice); len(who) > 0 || len(sent) > 0 || len(ends) > 0 {
				t.Errorf("RoundRobin of %d sessions with %d = %s", length, slice, formatTurns(list, who, sent, ends))
			}
		}
		// One session that is not valid is enough, wherever it is.
		for i := range list {
			for _, change := range []func(s *impl.Session){func(s *impl.Session) { s.Used = 3 }, func(s *impl.Session) { s.Sent = 1 }, func(s *impl.Session) { s.Quota = impl.MaxFuel + 1 }, func(s *impl.Session) { s.End = impl.EndNo }, func(s *impl.Session) { *s = impl.Session{} }} {
				bad := slices.Clone(list)
				change(&bad[i])
				if who, sent, ends := turned(t, bad, 1); len(who) > 0 || len(sent) > 0 || len(ends) > 0 {
					t.Errorf("RoundRobin of %d sessions, of which one is not valid, = %s", length, formatTurns(bad, who, sent, ends))
				}
			}
		}
	}
}

// TestManyTurns compares the turns of random sessions, some of which were given slices before.
func TestManyTurns(t *testing.T) {
	t.Parallel()
	s := source{state: 73}
	mixed, ended := 0, 0
	for range 1200 {
		var list []impl.Session
		for range s.below(9) {
			x := mustOpen(t, s.knownProgram(), s.knownQuery(), s.below(50))
			for range s.below(3) {
				x, _ = impl.SliceSession(x, s.below(4))
			}
			if x.End != impl.Running {
				ended++
			}
			list = append(list, x)
		}
		for _, slice := range []int{1, 2, 1 + s.below(8), 1 + s.below(400)} {
			checkTurns(t, list, slice)
		}
		// A session that sends something behind another one, and before it.
		who, _, _ := turned(t, list, 1)
		if !slices.IsSorted(who) {
			mixed++
		}
	}
	if mixed < 50 || ended < 300 {
		t.Errorf("only %d rounds have sessions that send by turns, and %d sessions have ended before", mixed, ended)
	}
}

// TestTurnsChangeNoSession compares what each session sends in turns with what it sends alone.
func TestTurnsChangeNoSession(t *testing.T) {
	p := programOf(t, sliced)
	for first := 0; first < len(slicedQueries); first++ {
		var list []impl.Session
		for i := range 8 {
			text := slicedQueries[(first+i*5)%len(slicedQueries)]
			list = append(list, mustOpen(t, p, mustQuery(t, text), []int{impl.MaxFuel, 25, 3}[i%3]))
		}
		for _, slice := range []int{1, 3, 10, impl.MaxFuel} {
			who, sent, ends := turned(t, list, slice)
			for i, s := range list {
				var own []impl.Answer
				for j, a := range sent {
					if who[j] == i {
						own = append(own, a)
					}
				}
				checkDrain(t, s, nil, own, ends[i])
			}
		}
	}
}

// TestNoGoroutineIsLeft looks for goroutines behind many calls.
func TestNoGoroutineIsLeft(t *testing.T) {
	list := openAll(t, "300 loop", "300 q(A)", "100 p(A),p(B)", "0 true")
	before := runtime.NumGoroutine()
	for range 300 {
		impl.DrainSession(list[0], []int{1, 2, 3})
		impl.DrainSession(list[2], nil)
		impl.DrainSession(impl.Session{}, []int{1})
		impl.RoundRobin(list, 50)
		impl.RoundRobin(list, 0)
		impl.RoundRobin([]impl.Session{list[0], list[1], {}}, 1)
		impl.SliceSession(list[1], 5)
	}
	// The runtime may count one that has just done its work.
	for range 100 {
		if runtime.NumGoroutine() <= before {
			return
		}
		time.Sleep(10 * time.Millisecond)
	}
	t.Errorf("there are %d goroutines, and there were %d", runtime.NumGoroutine(), before)
}

// TestSessionsInTime has sessions for which each goal takes long, and which are given little fuel at a time.
func TestSessionsInTime(t *testing.T) {
	// All clauses fit but for the last node of their heads, again and again.
	var p []impl.Clause
	for n := range impl.MaxClauses - 1 {
		p = append(p, impl.Clause{Head: structure("p", bush(100), number(n))})
	}
	p = append(p, impl.Clause{Head: structure("p", bush(100), variable(0)), Body: slices.Repeat([]impl.Term{structure("p", bush(100), number(99))}, impl.MaxGoals)})
	s := mustOpen(t, p, []impl.Term{structure("p", bush(100), number(99))}, impl.MaxFuel)
	grown := mustOpen(t, mustProgram(t, "g(A,B):-A=f(C,C,C,C),g(C,B).", "m:-g(A,B),fail."), mustQuery(t, "m"), impl.MaxFuel)
	for _, list := range [][]int{nil, slices.Repeat([]int{1}, 100), slices.Repeat([]int{3}, 100)} {
		checkDrain(t, s, list, nil, impl.EndFuel)
		checkDrain(t, grown, list, nil, impl.EndFuel)
	}
	list := []impl.Session{s, grown, s, s, grown, s, s, s}
	if who, sent, ends := turned(t, list, 1); len(who) > 0 || len(sent) > 0 || !slices.Equal(ends, slices.Repeat([]int{impl.EndFuel}, 8)) {
		t.Errorf("RoundRobin = %s", formatTurns(list, who, sent, ends))
	}
	inTime(t, func() {
		for s.End == impl.Running {
			s, _ = impl.SliceSession(s, 10)
		}
		if s.Used != impl.MaxFuel || s.End != impl.EndFuel {
			t.Errorf("SliceSession = %d, %s", s.Used, sessionEnd(s.End))
		}
	})
}
