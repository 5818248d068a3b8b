package tests

import (
	"fmt"
	"slices"
	"strings"
	"testing"

	"loop.example/prologserver/impl"
)

// checkServed checks what a client with some bytes is sent: by ExpectedFrames, and by servers with it alone and
// with it among others that send something else.
func checkServed(t *testing.T, about string, quota int, b []byte, want []impl.Frame) {
	t.Helper()
	if got := impl.ExpectedFrames(b, quota); !slices.Equal(got, want) {
		t.Errorf("%s: ExpectedFrames = %.600s, not %.600s", about, formatFrames(got), formatFrames(want))
	}
	others := [][]byte{{0, 0}, slowEncodedAll(framesOf("load p(x).\n", "query p(A)", "query p(A),q(A)", "close")), nil}
	for _, slice := range []int{1, 2, 7, impl.MaxFuel, greatestInt} {
		s := impl.RunServer(impl.FeedServer(mustServer(t, 1, quota), 0, b), slice)
		checkSent(t, about+", alone", s, 0, want)
		for client := range 4 {
			s := mustServer(t, 4, quota)
			for i, other := range others {
				s = impl.FeedServer(s, (client+1+i)%4, other)
			}
			s = impl.RunServer(impl.FeedServer(s, client, b), slice)
			checkSent(t, about+", among others", s, client, want)
			for i, other := range others {
				checkSent(t, about+", another one", s, (client+1+i)%4, slowExpected(other, quota))
			}
		}
	}
}

// checkRun checks what a client with some frames is sent, which is written as formatFrames does.
func checkRun(t *testing.T, quota int, want string, rows ...string) {
	t.Helper()
	b := slowEncodedAll(framesOf(rows...))
	checkServed(t, fmt.Sprintf("%.200q", rows), quota, b, framesOf(splitRows(want)...))
	// Byte by byte, with a turn behind each byte.
	s := mustServer(t, 2, quota)
	for _, part := range slices.Collect(slices.Chunk(b, 1+len(b)/100)) {
		s = afterTurn(t, fed(t, s, 1, part), 1)
	}
	s = afterRun(t, s, 3)
	if got := formatFrames(impl.ClientOut(s, 1)); got != want {
		t.Errorf("%.200q: byte by byte, the client is sent %.600s, not %.600s", rows, got, want)
	}
}

// TestHandledFrames has each type of frame as one that waits, those that only a server sends among them.
func TestHandledFrames(t *testing.T) {
	for _, c := range []struct{ frame, want string }{
		{"load", "ok"}, {"load p(1).\n", "ok"}, {"load p(1)", "error program"}, {"query p(A)", "end 8"}, {"query true", "answer yes & end 0"}, {"query", "error query"}, {"close", "ok"}, {"close p(A)", "ok"}, {"close p(1).\n", "ok"},
		{"ok", "error type"}, {"ok p(1).\n", "error type"}, {"error", "error type"}, {"error type", "error type"}, {"answer", "error type"}, {"answer A=1", "error type"}, {"end", "error type"}, {"end 0", "error type"},
	} {
		checkRun(t, 20, c.want, c.frame)
		// Frames around it are handled, too.
		checkRun(t, 20, "ok & "+c.want+" & error query & "+c.want+" & ok", "load q(3).\n", c.frame, "query q(", c.frame, "close")
		if strings.HasPrefix(c.want, "error") {
			checkRun(t, 20, "ok & "+c.want+" & answer A=3 & end 0", "load q(3).\n", c.frame, "query q(A)")
		}
	}
}

func TestLoadedPrograms(t *testing.T) {
	const three = "load p(1).\np(2).\np(3).\n"
	checkRun(t, 20, "ok & answer A=1 & answer A=2 & answer A=3 & end 0", three, "query p(A)")
	// A text that is no program leaves the one before.
	for _, text := range []string{"p", "p(9)", "p(9).", "p(9).\n\n", "\n", "P.\n", "p(9).\np(8)", "p(9)\n", "p(9). \n", "true.\n", "p(9):-1.\n", strings.Repeat("p(9).\n", 21)} {
		checkRun(t, 20, "ok & error program & answer A=1 & answer A=2 & answer A=3 & end 0", three, "load "+text, "query p(A)")
		checkRun(t, 20, "error program & end 8", "load "+text, "query p(A)")
	}
	checkRun(t, 20, "ok"+strings.Repeat(" & answer A=9", 20)+" & end 0", "load "+strings.Repeat("p(9).\n", 20), "query p(A)")
	// An empty program is a program, and one that is loaded replaces the one before.
	checkRun(t, 20, "ok & ok & end 8", three, "load", "query p(A)")
	checkRun(t, 20, "ok & ok & answer A=4 & end 0", three, "load p(4).\n", "query p(A)")
	checkRun(t, 20, "ok & ok & end 8 & answer A=5 & end 0", three, "load q(5).\n", "query p(A)", "query q(A)")
	checkRun(t, 20, "ok & ok & end 8 & error query", three, "close", "query p(A)", "query p(A")
	checkRun(t, 20, "ok & ok & ok & answer A=4 & end 0", three, "close", "load p(4).\n", "query p(A)")
	checkRun(t, 20, "ok & ok & error program & end 8", three, "close", "load p", "query p(A)")
}

func TestAskedQueries(t *testing.T) {
	const three = "load p(1).\np(2).\np(3).\nq:-lost.\n"
	for _, text := range []string{"p(A", "A", "7", "p(A).", " p(A)", "p(A),", ",p(A)", "p(1)\n", "p(A):-q", "p(A) ", "q,q,q,q,q,q,q", "a+b", "P", "[p]"} {
		checkRun(t, 20, "ok & error query & answer A=3 & end 0", three, "query "+text, "query p(A),A>2")
	}
	for _, c := range []struct{ query, want string }{
		{"p(A)", "answer A=1 & answer A=2 & answer A=3 & end 0"}, {"p(B),p(A),A>B", "answer B=1;A=2 & answer B=1;A=3 & answer B=2;A=3 & end 0"}, {"p(2)", "answer yes & end 0"}, {"p(4)", "end 0"}, {"!", "answer yes & end 0"}, {"p(A),!", "answer A=1 & end 0"}, {"p(A),A=f(B)", "end 0"}, {"A=f(B,C)", "answer A=f(A,B);B=A;C=B & end 0"},
		// Goals that the program does not know.
		{"nosuch", "end 8"}, {"p(1,2)", "end 8"}, {"q", "end 8"}, {"p(A),nosuch(A)", "end 8"}, {"nosuch(A),p(A)", "end 8"}, {"fail,nosuch", "end 0"},
	} {
		checkRun(t, 20, "ok & "+c.want, three, "query "+c.query)
		checkRun(t, 20, "ok & "+c.want+" & answer A=3 & end 0", three, "query "+c.query, "query p(A),A=3")
	}
	// The longest text that is read, and longer ones.
	for length, want := range map[int]string{999: "end 8", 1000: "end 8", 1001: "error query", 1002: "error query", 1999: "error query"} {
		var goals []impl.Term
		for _, size := range shares(length-len(",,,,,"), impl.MaxGoals) {
			goals = append(goals, sized(size))
		}
		if text := writeAll(goals); len(text) != length || !impl.QueryValid(goals) {
			t.Fatalf("a query of %d bytes has %d", length, len(text))
		}
		checkRun(t, 20, want, "query "+writeAll(goals))
	}
}

func TestClosedPrograms(t *testing.T) {
	const three = "load p(1).\np(2).\np(3).\n"
	checkRun(t, 20, "ok & ok & end 8", three, "close", "query p(A)")
	checkRun(t, 20, "ok & answer A=3 & end 0 & ok & end 8", three, "query p(A),A>2", "close", "query p(A)")
	checkRun(t, 20, "ok & ok & ok & end 8", "close", three, "close", "query p(A)")
	checkRun(t, 20, "ok & ok & answer A=2 & end 0", three, "close", "query A=2")
	checkRun(t, 20, "ok & ok & ok & answer A=3 & end 0", three, "close", three, "query p(A),A>2")
}

// TestQueriesBehindOthers has queries that arrive while another one runs, and programs that are loaded behind a query.
func TestQueriesBehindOthers(t *testing.T) {
	const three = "load p(1).\np(2).\np(3).\nloop:-loop.\n"
	checkRun(t, 20, "ok & answer A=2 & answer A=3 & end 0 & answer A=1 & end 0", three, "query p(A),A>1", "query p(A),A<2")
	checkRun(t, 20, "ok & end 2 & answer A=1 & end 0 & end 2 & end 2 & answer yes & end 0", three, "query loop", "query p(A),A<2", "query loop", "query p(A),loop", "query p(1)")
	checkRun(t, 20, "ok & answer A=1 & end 0 & error query & answer B=2 & end 0", three, "query p(A),A<2", "query p(", "query p(B),B=2")
	// The answers are those of the program that was there before the query.
	checkRun(t, 20, "ok & answer A=1 & answer A=2 & answer A=3 & end 0 & ok & answer A=4 & end 0", three, "query p(A)", "load p(4).\n", "query p(A)")
	checkRun(t, 20, "ok & answer A=2 & answer A=3 & end 0 & ok & end 8", three, "query p(A),A>1", "load q(4).\n", "query p(A),A>1")
	checkRun(t, 20, "end 8 & ok & answer A=4 & end 0", "query q(A)", "load q(4).\n", "query q(A)")
	checkRun(t, 20, "ok & answer A=2 & answer A=3 & end 0 & error program & answer A=3 & end 0", three, "query p(A),A>1", "load p(", "query p(A),A=3")
	checkRun(t, 20, "ok & answer A=2 & answer A=3 & end 0 & ok & end 8", three, "query p(A),A>1", "close", "query p(A),A>1")
}

// TestProgramsThatAreReplacedWhileAQueryRuns feeds frames when the first answer has been sent: the others are those of
// the program that was there when the query came.
func TestProgramsThatAreReplacedWhileAQueryRuns(t *testing.T) {
	for _, frame := range []string{"load p(7).\np(8).\n", "load", "load p(", "close", "query p(A)"} {
		s := mustServer(t, 1, 20)
		s = fed(t, s, 0, slowEncodedAll(framesOf("load p(1).\np(2).\np(3).\n", "query p(A),A>1")))
		for range 5 {
			s = afterTurn(t, s, 1)
		}
		checkSent(t, "the first answer", s, 0, framesOf("ok", "answer A=2"))
		s = fed(t, s, 0, slowEncodedAll(framesOf(frame, "query p(A)")))
		if c := s.Clients[0]; len(c.Waiting) != 2 || impl.FormatProgram(c.Program) != "p(1).\np(2).\np(3).\n" {
			t.Errorf("%q: %d frames wait, and the program is %q", frame, len(c.Waiting), impl.FormatProgram(c.Program))
		}
		s = afterTurn(t, s, 1)
		checkSent(t, "the end", s, 0, framesOf("ok", "answer A=2", "answer A=3", "end 0"))
		if c := s.Clients[0]; len(c.Waiting) != 2 || c.Active {
			t.Errorf("%q: %d frames wait, and Active is %v", frame, len(c.Waiting), c.Active)
		}
		behind := map[string]string{"load p(7).\np(8).\n": "ok & answer A=7 & answer A=8 & end 0", "load": "ok & end 8", "load p(": "error program & answer A=1 & answer A=2 & answer A=3 & end 0", "close": "ok & end 8", "query p(A)": "answer A=1 & answer A=2 & answer A=3 & end 0 & answer A=1 & answer A=2 & answer A=3 & end 0"}[frame]
		if got := formatFrames(impl.ClientOut(afterRun(t, s, 1), 0)); got != "ok & answer A=2 & answer A=3 & end 0 & "+behind {
			t.Errorf("%q: the client is sent %s", frame, got)
		}
	}
}

// TestEndsOfClients has a session for each end, and the same ones without enough fuel.
func TestEndsOfClients(t *testing.T) {
	load := "load " + strings.TrimPrefix(sliced, "\n")
	for _, c := range []struct {
		query, answers string
		end, goals     int
	}{
		{"p(A),A>1,A<3", "answer A=2 & ", impl.EndNo, 6}, {"p(4)", "", impl.EndNo, 1}, {"p(A),p(B),p(C),A>1,B>1,C>0", "answer A=2;B=2;C=1 & answer A=2;B=2;C=2 & answer A=2;B=2;C=3 & answer A=2;B=3;C=1 & answer A=2;B=3;C=2 & answer A=2;B=3;C=3 & answer A=3;B=2;C=1 & answer A=3;B=2;C=2 & answer A=3;B=2;C=3 & answer A=3;B=3;C=1 & answer A=3;B=3;C=2 & answer A=3;B=3;C=3 & ", impl.EndNo, 0},
		{"loop", "", impl.EndFuel, 0}, {"q(A)", "answer A=1 & ", impl.EndFuel, 0},
		{"g(A),A=a", "", impl.EndLarge, 0}, {"A is B", "", impl.EndInst, 1}, {"p(A),arg(A,f(1,x),B),B<2", "answer A=1;B=1 & ", impl.EndType, 5}, {"p(A),B is 1//(A-2)", "answer A=1;B=-1 & ", impl.EndZero, 3}, {"p(A),B is 499*A", "answer A=1;B=499 & answer A=2;B=998 & ", impl.EndRange, 4}, {"nosuch", "", impl.EndUnknown, 1}, {"p(A),nosuch", "", impl.EndUnknown, 2},
	} {
		checkRun(t, 100, fmt.Sprint("ok & ", c.answers, "end ", c.end), load, "query "+c.query)
		if c.goals > 0 {
			checkRun(t, c.goals, fmt.Sprint("ok & ", c.answers, "end ", c.end), load, "query "+c.query)
			// The last goal ends the search, but finds no answer.
			checkRun(t, c.goals-1, "ok & "+c.answers+"end 2", load, "query "+c.query)
		}
		// Without fuel, no goal is taken.
		checkRun(t, 0, "ok & end 2", load, "query "+c.query)
	}
	// As many answers as are sent, with another one behind them.
	most := make([]string, 0, impl.MaxAnswers)
	for i := range 20 {
		most = append(most, fmt.Sprintf("answer A=%d;B=%d;C=%d", i/9+1, i/3%3+1, i%3+1))
	}
	checkRun(t, 100, "ok & "+strings.Join(most, " & ")+" & end 1", load, "query p(A),p(B),p(C)")
}
