package tests

import (
	"fmt"
	"slices"
	"strings"
	"testing"

	"loop.example/prologserver/impl"
)

// dutiesOf returns the client of clientFor whose four answers to what applies are the bits of n.
func dutiesOf(t *testing.T, n int) impl.Client {
	t.Helper()
	return clientFor(t, n&1 != 0, n&2 != 0, n&4 != 0, n&8 != 0)
}

// TestOneThingInATurn has clients at which none, one, two and three of the things apply that are done in a turn.
func TestOneThingInATurn(t *testing.T) {
	for n := range 16 {
		c := dutiesOf(t, n)
		want := c
		switch {
		case n&1 != 0:
			want.Session.Used = 1
		case n&2 != 0:
			want.Waiting = framesOf("close", "error p")
			want.Active, want.Session = true, mustOpen(t, c.Program, mustQuery(t, "p(A)"), 20)
		case n&4 != 0 && n&8 == 0:
			want.Told, want.Out = true, framesOf("ok", "end 4", "error frame")
		}
		for client := range 4 {
			s := impl.Server{Clients: make([]impl.Client, 4), Quota: 20}
			s.Clients[client] = c
			got := afterTurn(t, s, 1)
			s.Clients[client] = want
			checkServer(t, fmt.Sprintf("a turn of the client %d, at which %04b applies", client, n), got, s)
		}
	}
}

// TestDutiesInOrder gives turns until nothing is left to do, to clients at which different things apply.
func TestDutiesInOrder(t *testing.T) {
	for n := range 16 {
		s := impl.Server{Quota: 20}
		var want []string
		for i := range 4 {
			k := (n + 5*i) % 16
			s.Clients = append(s.Clients, dutiesOf(t, k))
			text := "ok & end 4"
			if k&1 != 0 {
				text += " & answer A=2 & answer A=3 & end 0"
			}
			if k&2 != 0 {
				text += " & answer A=7 & answer A=8 & end 0 & ok & error type"
			}
			if k&4 != 0 && k&8 == 0 {
				text += " & error frame"
			}
			want = append(want, text)
		}
		for _, slice := range []int{1, 2, 7, impl.MaxFuel, greatestInt} {
			turned := s
			for range 12 {
				turned = afterTurn(t, turned, slice)
			}
			for i, s := range []impl.Server{turned, afterRun(t, s, slice), afterRun(t, turned, slice)} {
				for client := range want {
					if got := formatFrames(impl.ClientOut(s, client)); got != want[client] {
						t.Errorf("%d: the client %d, at which %04b applies, is sent %s, not %s", i, client, (n+5*client)%16, got, want[client])
					}
				}
				if !impl.ServerIdle(s) {
					t.Errorf("%d: ServerIdle = false", i)
				}
			}
		}
	}
}

// TestSlicesOfTurns has slices that are refused, and the fuel that others give.
func TestSlicesOfTurns(t *testing.T) {
	for n := range 16 {
		for _, quota := range []int{20, -1} {
			s := impl.Server{Clients: []impl.Client{{}, dutiesOf(t, n), dutiesOf(t, n/2)}, Quota: quota}
			for _, slice := range []int{0, -1, -impl.MaxFuel, leastInt} {
				checkServer(t, fmt.Sprint("TurnServer with ", slice), impl.TurnServer(s, slice), s)
				checkServer(t, fmt.Sprint("RunServer with ", slice), impl.RunServer(s, slice), s)
			}
		}
	}
	for _, slice := range []int{1, 2, 7, 46, 47, 48, impl.MaxFuel, impl.MaxFuel + 1, greatestInt - 1, greatestInt} {
		x := impl.Client{Active: true, Session: mustOpen(t, programOf(t, sliced), mustQuery(t, "q(A)"), 50)}
		x.Session, _ = impl.SliceSession(x.Session, 3)
		got := afterTurn(t, impl.Server{Clients: []impl.Client{x}, Quota: 20}, slice).Clients[0]
		used := 3 + min(slice, 47)
		if used < 50 {
			if got.Session.Used != used || !got.Active || len(got.Out) > 0 {
				t.Errorf("a slice of %d: %s was sent, and the session is %s", slice, formatFrames(got.Out), formatSession(got.Session))
			}
			continue
		}
		if got.Active || formatFrames(got.Out) != "end 2" || !isZeroSession(got.Session) {
			t.Errorf("a slice of %d: Active is %v, %s was sent, and the session is %s", slice, got.Active, formatFrames(got.Out), formatSession(got.Session))
		}
	}
}

// TestSeveralAnswersInASlice has sessions that send no answer, one and several with a slice.
func TestSeveralAnswersInASlice(t *testing.T) {
	for _, c := range []struct {
		query string
		slice int
		// what is sent with each slice, one after the other
		want []string
	}{
		// p(A),A>1 sends A=2 with its third unit and A=3 with its fourth one.
		{"p(A),A>1", 1, []string{"", "", "answer A=2", "answer A=3 & end 0", ""}},
		{"p(A),A>1", 2, []string{"", "answer A=2 & answer A=3 & end 0", ""}},
		{"p(A),A>1", 3, []string{"answer A=2", "answer A=3 & end 0", ""}},
		{"p(A),A>1", 4, []string{"answer A=2 & answer A=3 & end 0", ""}},
		{"p(A)", 1, []string{"answer A=1 & answer A=2 & answer A=3 & end 0", ""}},
		{"p(A),p(B),A<2", 3, []string{"answer A=1;B=1", "answer A=1;B=2 & answer A=1;B=3", "", "", "end 0", ""}},
		{"q(A)", 5, []string{"answer A=1", "", "", "end 2", ""}},
		{"p(A),p(B),p(C)", 300, []string{"answer A=1;B=1;C=1 & answer A=1;B=1;C=2 & answer A=1;B=1;C=3 & answer A=1;B=2;C=1 & answer A=1;B=2;C=2 & answer A=1;B=2;C=3 & answer A=1;B=3;C=1 & answer A=1;B=3;C=2 & answer A=1;B=3;C=3 & answer A=2;B=1;C=1 & answer A=2;B=1;C=2 & answer A=2;B=1;C=3 & answer A=2;B=2;C=1 & answer A=2;B=2;C=2 & answer A=2;B=2;C=3 & end 2", ""}},
		{"loop", 20, []string{"end 2", ""}}, {"nosuch", 1, []string{"end 8", ""}}, {"p(A),B is 1//(A-2)", 2, []string{"answer A=1;B=-1", "end 6", ""}},
	} {
		for _, clients := range []int{1, 3} {
			s := mustServer(t, clients, 20)
			if c.slice == 300 {
				s.Quota = 8
			}
			client := clients - 1
			s.Clients[client].Program = programOf(t, sliced)
			s = afterTurn(t, fed(t, s, client, slowEncodedAll(framesOf("query "+c.query))), 1)
			if x := s.Clients[client]; !x.Active || len(x.Out) > 0 || x.Session.Used != 0 || x.Session.Quota != s.Quota {
				t.Errorf("%s: behind the query, %s was sent, and the session is %s", c.query, formatFrames(x.Out), formatSession(x.Session))
			}
			for i, want := range c.want {
				before := len(impl.ClientOut(s, client))
				s = afterTurn(t, s, c.slice)
				if got := formatFrames(impl.ClientOut(s, client)[before:]); got != want {
					t.Errorf("%s: the slice %d of %d sends %s, not %s", c.query, i, c.slice, got, want)
				}
			}
		}
	}
}

// TestClientsOfBrokenDecoders has a decoder that breaks while a session runs and while frames wait.
func TestClientsOfBrokenDecoders(t *testing.T) {
	const want = "ok & answer A=2 & answer A=3 & end 0 & error type & error frame"
	stream := slowEncodedAll(framesOf("load p(1).\np(2).\np(3).\n", "query p(A),A>1", "answer"))
	for _, broken := range [][]byte{{0, 0}, {7, 210}, {255, 255}, {0, 1, 8}, {0, 3, 2, 9, 'p'}, append([]byte{0, 0}, stream...)} {
		// The decoder breaks before the first turn, while the session runs, and behind everything else.
		for turns := range 9 {
			s := fed(t, mustServer(t, 2, 20), 1, stream)
			for range turns {
				s = afterTurn(t, s, 1)
			}
			s = fed(t, s, 1, broken)
			if c := s.Clients[1]; !c.In.Broken || c.Told || strings.Contains(formatFrames(c.Out), "frame") {
				t.Errorf("behind %d turns, the decoder is %v, Told is %v, and %s was sent", turns, c.In, c.Told, formatFrames(c.Out))
			}
			// What follows makes no difference.
			s = fed(t, s, 1, stream)
			for i := turns; !impl.ServerIdle(s); i++ {
				if told := s.Clients[1].Told; told {
					t.Errorf("behind %d turns, the client was told, but something is left to do", i)
				}
				s = afterTurn(t, s, 1)
			}
			for range 3 {
				if got := formatFrames(impl.ClientOut(s, 1)); got != want || !s.Clients[1].Told || len(impl.ClientOut(s, 0)) > 0 {
					t.Errorf("the clients are sent %s, and %s", got, formatFrames(impl.ClientOut(s, 0)))
				}
				// It is told once.
				s = afterRun(t, afterTurn(t, fed(t, s, 1, broken), 1), 2)
			}
		}
		checkServed(t, fmt.Sprint("broken by ", someBytes(broken)), 20, slices.Concat(stream, broken, stream), framesOf(splitRows(want)...))
		checkServed(t, fmt.Sprint("only ", someBytes(broken)), 20, broken, framesOf("error frame"))
	}
	// A frame that is not complete is no frame, and breaks nothing.
	for cut := 1; cut < 4; cut++ {
		checkServed(t, "a part of a frame", 20, slices.Concat(slowEncodedAll(framesOf("close")), slowEncodedAll(framesOf("query p"))[:cut]), framesOf("ok"))
	}
}

// TestEachClientHasATurn has clients that are at different places, and counts the turns of each.
func TestEachClientHasATurn(t *testing.T) {
	for clients := 1; clients <= 4; clients++ {
		s := mustServer(t, clients, 20)
		for i := range clients {
			s = fed(t, s, i, slowEncodedAll(framesOf(slices.Repeat([]string{"close"}, 2+i)...)))
		}
		for turn := range 7 {
			for i := range clients {
				if got := len(impl.ClientOut(s, i)); got != min(turn, 2+i) {
					t.Errorf("the client %d of %d is sent %d frames in %d turns", i, clients, got, turn)
				}
			}
			s = afterTurn(t, s, 1)
		}
		// A client whose frames come later has its turns, too.
		s = afterRun(t, fed(t, s, 0, slowEncodedAll(framesOf("query nosuch"))), 1)
		if got := formatFrames(impl.ClientOut(s, 0)); got != "ok & ok & end 8" {
			t.Errorf("the client 0 is sent %s", got)
		}
	}
}

// TestLongAnswers has answers at the greatest length of a text, and past it, with shorter ones around them.
func TestLongAnswers(t *testing.T) {
	part := impl.WriteTerm(sized(498))
	for length := 1990; length <= 2010; length++ {
		whole := impl.WriteTerm(sized(length - len("A=;B=;C=;D=") - 3*len(part)))
		answer := func(value string) string { return fmt.Sprintf("A=%s;B=%s;C=%s;D=%s", value, part, part, part) }
		if len(answer(whole)) != length {
			t.Fatalf("the answer has %d bytes, not %d", len(answer(whole)), length)
		}
		want := "answer " + answer(whole)
		if length > 2000 {
			want = "answer long"
		}
		load := fmt.Sprintf("load a(1).\na(%s).\na(2).\nb(%s).\n", whole, part)
		checkRun(t, 20, "ok & answer "+answer("1")+" & "+want+" & answer "+answer("2")+" & end 0", load, "query a(A),b(B),b(C),b(D)")
	}
	load := "load b(" + part + ").\n"
	checkRun(t, 20, "ok & answer long & end 0", load, "query b(A),b(B),b(C),b(D),b(E),b(F)")
	checkRun(t, 20, "ok & end 8", load, "query b(A),b(B),b(C),b(D),b(E),long")
}
