package tests

import (
	"fmt"
	"slices"
	"strings"
	"testing"

	"loop.example/prologserver/impl"
)

// frameNames has the names of the types of frames, from 1 on.
var frameNames = []string{"load", "query", "close", "ok", "error", "answer", "end"}

// framesOf returns frames with the name of their type, a space and their text. The space is left out if there is no text.
func framesOf(rows ...string) []impl.Frame {
	var list []impl.Frame
	for _, row := range rows {
		name, text, _ := strings.Cut(row, " ")
		list = append(list, impl.Frame{Type: slices.Index(frameNames, name) + 1, Text: text})
	}
	return list
}

// formatFrames returns frames as framesOf reads them, with & between them.
func formatFrames(list []impl.Frame) string {
	var rows []string
	for _, f := range list {
		name := fmt.Sprint("type ", f.Type)
		if f.Type >= 1 && f.Type <= len(frameNames) {
			name = frameNames[f.Type-1]
		}
		rows = append(rows, strings.TrimSuffix(name+" "+f.Text, " "))
	}
	return strings.Join(rows, " & ")
}

// splitRows returns the rows that formatFrames has put together.
func splitRows(text string) []string {
	return strings.Split(text, " & ")
}

// slowFits reports whether a server fits together, as the document says it.
func slowFits(s impl.Server) bool {
	if len(s.Clients) > 4 || s.Quota < 0 || s.Quota > 300 {
		return false
	}
	for _, c := range s.Clients {
		if !impl.DecoderValid(c.In) || !impl.ProgramValid(c.Program) {
			return false
		}
		for _, f := range c.Waiting {
			if !impl.FrameValid(f) {
				return false
			}
		}
		if c.Active && (!impl.SessionValid(c.Session) || c.Session.End != -1) {
			return false
		}
	}
	return true
}

// slowFeed returns what FeedServer should return, but partly in the memory of s.
func slowFeed(s impl.Server, client int, b []byte) impl.Server {
	if client < 0 || client >= len(s.Clients) || !slowFits(s) {
		return s
	}
	s.Clients = slices.Clone(s.Clients)
	c := &s.Clients[client]
	in, frames := impl.FeedDecoder(c.In, b)
	c.In, c.Waiting = in, slices.Concat(c.Waiting, frames)
	return s
}

// slowSend sends a frame to a client, whatever is in the memory behind those that were sent.
func slowSend(c *impl.Client, kind int, text string) {
	c.Out = append(slices.Clip(c.Out), impl.Frame{Type: kind, Text: text})
}

// slowSendAnswer sends the text of an answer, unless it is too long.
func slowSendAnswer(c *impl.Client, query []impl.Term, a impl.Answer) {
	text := impl.FormatAnswer(query, a)
	if len(text) > 2000 {
		text = "long"
	}
	slowSend(c, impl.FrameAnswer, text)
}

// slowHandle handles a frame, and returns the query that it asks, or false if it asks none.
func slowHandle(c *impl.Client, f impl.Frame) ([]impl.Term, bool) {
	switch f.Type {
	case impl.FrameLoad:
		if p, ok := impl.ParseProgram(f.Text); ok {
			c.Program = p
			slowSend(c, impl.FrameOk, "")
		} else {
			slowSend(c, impl.FrameError, "program")
		}
	case impl.FrameQuery:
		if query, ok := impl.ParseQuery(f.Text); ok {
			return query, true
		}
		slowSend(c, impl.FrameError, "query")
	case impl.FrameClose:
		c.Program = nil
		slowSend(c, impl.FrameOk, "")
	default:
		slowSend(c, impl.FrameError, "type")
	}
	return nil, false
}

// slowClientTurn returns a client after its turn, as the document says it.
func slowClientTurn(c impl.Client, slice int, quota int) impl.Client {
	switch {
	case c.Active:
		next, answers := impl.SliceSession(c.Session, slice)
		for _, a := range answers {
			slowSendAnswer(&c, next.Query, a)
		}
		c.Session = next
		if next.End != -1 {
			slowSend(&c, impl.FrameEnd, fmt.Sprint(next.End))
			c.Active, c.Session = false, impl.Session{}
		}
	case len(c.Waiting) > 0:
		first := c.Waiting[0]
		c.Waiting = c.Waiting[1:]
		if query, ok := slowHandle(&c, first); ok {
			c.Session, c.Active = impl.OpenSession(c.Program, query, quota)
		}
	case c.In.Broken && !c.Told:
		slowSend(&c, impl.FrameError, "frame")
		c.Told = true
	}
	return c
}

// slowTurn returns what TurnServer should return, but partly in the memory of s.
func slowTurn(s impl.Server, slice int) impl.Server {
	if slice < 1 || !slowFits(s) {
		return s
	}
	s.Clients = slices.Clone(s.Clients)
	for i, c := range s.Clients {
		s.Clients[i] = slowClientTurn(c, slice, s.Quota)
	}
	return s
}

// slowIdle returns what ServerIdle should return.
func slowIdle(s impl.Server) bool {
	for _, c := range s.Clients {
		if c.Active || len(c.Waiting) > 0 || c.In.Broken && !c.Told {
			return false
		}
	}
	return true
}

// slowRunServer returns what RunServer should return, but partly in the memory of s.
func slowRunServer(s impl.Server, slice int) impl.Server {
	if slice < 1 || !slowFits(s) {
		return s
	}
	for !slowIdle(s) {
		s = slowTurn(s, slice)
	}
	return s
}

// slowExpected returns what ExpectedFrames should return for a quota that is allowed.
func slowExpected(b []byte, quota int) []impl.Frame {
	var c impl.Client
	d, frames := slowDecoded(b)
	for _, f := range frames {
		query, ok := slowHandle(&c, f)
		if !ok {
			continue
		}
		answers, end := impl.Solve(c.Program, query, 20, quota)
		for _, a := range answers {
			slowSendAnswer(&c, query, a)
		}
		slowSend(&c, impl.FrameEnd, fmt.Sprint(end))
	}
	if d.Broken {
		slowSend(&c, impl.FrameError, "frame")
	}
	return c.Out
}

// clientDifference says in which field two clients are different, or is empty.
func clientDifference(a impl.Client, b impl.Client) string {
	switch {
	case !sameDecoder(a.In, b.In):
		return fmt.Sprintf("In: %v, %v and %v, %v", someBytes(a.In.Rest), a.In.Broken, someBytes(b.In.Rest), b.In.Broken)
	case !slices.Equal(a.Waiting, b.Waiting):
		return fmt.Sprintf("Waiting: %.200s and %.200s", formatFrames(a.Waiting), formatFrames(b.Waiting))
	case !impl.SessionSame(impl.Session{Program: a.Program}, impl.Session{Program: b.Program}):
		return fmt.Sprintf("Program: %q and %q", impl.FormatProgram(a.Program), impl.FormatProgram(b.Program))
	case a.Active != b.Active:
		return fmt.Sprintf("Active: %v and %v", a.Active, b.Active)
	case !impl.SessionSame(a.Session, b.Session):
		return fmt.Sprintf("Session: %s and %s", formatSession(a.Session), formatSession(b.Session))
	case a.Told != b.Told:
		return fmt.Sprintf("Told: %v and %v", a.Told, b.Told)
	case !slices.Equal(a.Out, b.Out):
		return fmt.Sprintf("Out: %.500s and %.500s", formatFrames(a.Out), formatFrames(b.Out))
	}
	return ""
}

// serverDifference says where two servers are different, or is empty.
func serverDifference(a impl.Server, b impl.Server) string {
	if a.Quota != b.Quota || len(a.Clients) != len(b.Clients) {
		return fmt.Sprintf("%d clients and the quota %d, and %d clients and the quota %d", len(a.Clients), a.Quota, len(b.Clients), b.Quota)
	}
	for i, c := range a.Clients {
		if text := clientDifference(c, b.Clients[i]); text != "" {
			return fmt.Sprintf("client %d, %s", i, text)
		}
	}
	return ""
}

// checkServer compares a server with the one that it should be.
func checkServer(t *testing.T, about string, got impl.Server, want impl.Server) {
	t.Helper()
	if text := serverDifference(got, want); text != "" {
		t.Fatalf("%s: the server and the one that it should be are different: %s", about, text)
	}
	if idle := impl.ServerIdle(got); idle != slowIdle(want) {
		t.Fatalf("%s: ServerIdle = %v", about, idle)
	}
}

// fed compares FeedServer with slowFeed, and returns the server.
func fed(t *testing.T, s impl.Server, client int, b []byte) impl.Server {
	t.Helper()
	got := impl.FeedServer(s, client, b)
	checkServer(t, fmt.Sprintf("FeedServer of the client %d with %d bytes %v", client, len(b), someBytes(b)), got, slowFeed(s, client, b))
	return got
}

// afterTurn compares TurnServer with slowTurn, and returns the server.
func afterTurn(t *testing.T, s impl.Server, slice int) impl.Server {
	t.Helper()
	got := impl.TurnServer(s, slice)
	checkServer(t, fmt.Sprint("TurnServer with the slice ", slice), got, slowTurn(s, slice))
	return got
}

// afterRun compares RunServer with slowRunServer, and returns the server. One that runs for ever fails the test.
func afterRun(t *testing.T, s impl.Server, slice int) (got impl.Server) {
	t.Helper()
	inTime(t, func() { got = impl.RunServer(s, slice) })
	checkServer(t, fmt.Sprint("RunServer with the slice ", slice), got, slowRunServer(s, slice))
	return got
}

// mustServer returns a server whose clients are the zero value.
func mustServer(t *testing.T, clients int, quota int) impl.Server {
	t.Helper()
	s, ok := impl.NewServer(clients, quota)
	if !ok {
		t.Fatalf("NewServer(%d, %d) = %v, %v", clients, quota, s, ok)
	}
	return s
}

// checkSent checks the frames that a server has sent to a client.
func checkSent(t *testing.T, about string, s impl.Server, client int, want []impl.Frame) {
	t.Helper()
	if got := impl.ClientOut(s, client); !slices.Equal(got, want) {
		t.Fatalf("%s: the client %d is sent %.600s, not %.600s", about, client, formatFrames(got), formatFrames(want))
	}
}
