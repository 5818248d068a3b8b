package tests

import (
	"fmt"
	"reflect"
	"slices"
	"testing"

	"loop.example/prologserver/impl"
)

// span is the memory of a slice, unused capacity included.
type span struct {
	from, to uintptr
}

// spansOf returns the memory of all slices in x. Those that are at the same place are there once only if once holds.
func spansOf(x any, once bool) []span {
	var list []span
	seen := map[span]bool{}
	var visit func(v reflect.Value)
	visit = func(v reflect.Value) {
		switch v.Kind() {
		case reflect.Struct:
			for i := range v.NumField() {
				visit(v.Field(i))
			}
		case reflect.Slice:
			if v.Cap() == 0 || v.Type().Elem().Size() == 0 {
				return
			}
			from := v.Pointer()
			s := span{from, from + uintptr(v.Cap())*v.Type().Elem().Size()}
			if once && seen[s] {
				return
			}
			seen[s] = true
			list = append(list, s)
			for i := range v.Cap() {
				visit(v.Slice(0, v.Cap()).Index(i))
			}
		}
	}
	visit(reflect.ValueOf(x))
	return list
}

// checkSeparate checks that no slice of a result shares memory with another one, or with a slice of what else there is.
func checkSeparate(t *testing.T, about string, result any, others ...any) {
	t.Helper()
	own := spansOf(result, false)
	slices.SortFunc(own, func(a, b span) int { return int(int64(a.from) - int64(b.from)) })
	for i := 1; i < len(own); i++ {
		if own[i].from < own[i-1].to {
			t.Errorf("%s: two slices of the result share memory", about)
			break
		}
	}
	for n, other := range others {
		for _, s := range spansOf(other, true) {
			if slices.ContainsFunc(own, func(o span) bool { return o.from < s.to && s.from < o.to }) {
				t.Errorf("%s: the result shares memory with the other value %d", about, n)
				break
			}
		}
	}
}

// withSpace returns a copy of list with memory behind it that has marks.
func withSpace[T any](list []T, mark T) []T {
	return append(slices.Clone(list), mark, mark, mark)[:len(list)]
}

// spacious returns a server of clients at which different things apply, with memory behind each slice. Two of them
// share memory with each other.
func spacious(t *testing.T) impl.Server {
	t.Helper()
	s := impl.Server{Quota: 20}
	for _, n := range []int{3, 3, 2, 11} {
		c := dutiesOf(t, n)
		if n != 11 {
			// What arrives are whole frames.
			c.In.Rest = nil
		}
		c.In.Rest = withSpace(c.In.Rest, 77)
		c.Waiting = withSpace(c.Waiting, impl.Frame{Type: 77, Text: "M"})
		c.Out = withSpace(c.Out, impl.Frame{Type: 77, Text: "M"})
		x := structure("f", number(1), variable(0))
		head := impl.Term{Kind: impl.TermStruct, Name: "p", Kids: withSpace([]impl.Term{x}, number(77))}
		c.Program = withSpace([]impl.Clause{{Head: head, Body: withSpace([]impl.Term{head}, number(77))}, {Head: head}}, impl.Clause{Head: number(77)})
		c.Session.Program = c.Program
		if c.Active {
			c.Session = impl.Session{Program: c.Program, Query: withSpace([]impl.Term{head}, number(77)), Quota: 9, End: impl.Running}
		}
		s.Clients = append(s.Clients, c)
	}
	s.Clients[1] = s.Clients[0]
	s.Clients = withSpace(s.Clients, impl.Client{Told: true, Out: []impl.Frame{{Type: 77}}})
	if !slowFits(s) || len(impl.FeedServer(s, 0, []byte{0, 1, 3}).Clients[0].Waiting) != 4 {
		t.Fatal("the server does not fit together, or is given no frame")
	}
	return s
}

// wholeText returns all that a value has, with the memory behind each slice.
func wholeText(x any) string {
	var text func(v reflect.Value) string
	text = func(v reflect.Value) string {
		switch v.Kind() {
		case reflect.Struct:
			s := "{"
			for i := range v.NumField() {
				s += text(v.Field(i)) + " "
			}
			return s + "}"
		case reflect.Slice:
			s := fmt.Sprint("[", v.Len(), " of ", v.Cap(), ":")
			for i := range v.Cap() {
				s += text(v.Slice(0, v.Cap()).Index(i)) + " "
			}
			return s + "]"
		}
		return fmt.Sprintf("%#v", v)
	}
	return text(reflect.ValueOf(x))
}

// serverCalls returns what is done with servers, by the names of the functions.
func serverCalls() map[string]func(s impl.Server) impl.Server {
	calls := map[string]func(s impl.Server) impl.Server{
		"NewServer": func(s impl.Server) impl.Server { x, _ := impl.NewServer(len(s.Clients), s.Quota); return x },
	}
	for _, slice := range []int{-1, 0, 1, 2, 9, greatestInt} {
		calls[fmt.Sprint("TurnServer with ", slice)] = func(s impl.Server) impl.Server { return impl.TurnServer(s, slice) }
		calls[fmt.Sprint("RunServer with ", slice)] = func(s impl.Server) impl.Server { return impl.RunServer(s, slice) }
	}
	parts := [][]byte{nil, {0}, slowEncodedAll(framesOf("query p(A)", "close")), append(slowEncodedAll(framesOf("load p(1).\n")), 0, 9, 2), {0, 0}}
	for client := -1; client < 5; client++ {
		for i, part := range parts {
			calls[fmt.Sprintf("FeedServer of the client %d with the part %d", client, i)] = func(s impl.Server) impl.Server { return impl.FeedServer(s, client, withSpace(part, 77)) }
		}
	}
	return calls
}

// TestServersShareNoMemory has servers that fit together and others, whose clients share memory with each other.
func TestServersShareNoMemory(t *testing.T) {
	fine := spacious(t)
	servers := map[string]impl.Server{"fine": fine, "a wrong quota": {Clients: fine.Clients, Quota: -1}, "5 clients": {Clients: slices.Repeat(fine.Clients[:1], 5), Quota: 20}, "no clients": {Quota: 20}}
	for name, change := range map[string]func(c *impl.Client){
		"a wrong decoder": func(c *impl.Client) { c.In = impl.Decoder{Rest: withSpace([]byte{0, 0, 9}, 77)} },
		"a wrong frame":   func(c *impl.Client) { c.Waiting = withSpace(framesOf("nothing"), impl.Frame{Type: 77}) },
		"a wrong program": func(c *impl.Client) {
			c.Program = withSpace([]impl.Clause{{Head: structure("p", structure("F"), structure("F", number(1)))}}, impl.Clause{})
		},
		"a wrong session": func(c *impl.Client) { c.Session.Sent = 5; c.Active = true },
	} {
		s := impl.Server{Clients: slices.Clone(fine.Clients), Quota: 20}
		change(&s.Clients[2])
		servers[name] = s
	}
	for name, s := range servers {
		before := wholeText(s)
		for call, do := range serverCalls() {
			about := name + ", " + call
			first, second := do(s), do(s)
			checkSeparate(t, about, first, s, second)
			if got := wholeText(s); got != before {
				t.Fatalf("%s: an argument was changed: %s, not %s", about, got, before)
			}
			// What is done with a result does not change another one.
			for client := range len(first.Clients) {
				out := impl.ClientOut(first, client)
				checkSeparate(t, about, out, s, first, second, impl.ClientOut(first, client))
			}
			checkServer(t, about, first, second)
			checkSeparate(t, about+" and a run", impl.RunServer(first, 1), s, first, second)
		}
		if got := wholeText(s); got != before {
			t.Errorf("%s: an argument was changed: %s, not %s", name, got, before)
		}
	}
}

// TestServersGoOnTwice goes on twice with each server that is reached on the way, in different ways.
func TestServersGoOnTwice(t *testing.T) {
	b := slowEncodedAll(framesOf("load p(1).\np(2).\np(3).\n", "query p(A),A>1", "load p(7).\n", "query p(A)", "close"))
	other := slowEncodedAll(framesOf("close", "query p(A)"))
	want := slowExpected(b, 20)
	s := fed(t, mustServer(t, 2, 20), 1, b)
	for range 14 {
		before := wholeText(s)
		next := afterTurn(t, s, 1)
		away := afterRun(t, fed(t, s, 0, other), 3)
		again := afterTurn(t, s, 1)
		checkSent(t, "the one that goes on", afterRun(t, next, 2), 1, want)
		checkSent(t, "the other one", away, 1, want)
		checkSent(t, "the other one", away, 0, framesOf("ok", "end 8"))
		checkServer(t, "twice the same", again, next)
		if got := wholeText(s); got != before {
			t.Fatalf("a server was changed: %s, not %s", got, before)
		}
		s = next
	}
}

func TestFramesOfClientsShareNoMemory(t *testing.T) {
	b := withSpace(slowEncodedAll(framesOf("load p(1).\n", "query p(A)", "ok", "query q")), 77)
	before := wholeText(b)
	first, second := impl.ExpectedFrames(b, 20), impl.ExpectedFrames(b, 20)
	checkSeparate(t, "ExpectedFrames", first, b, second)
	want := formatFrames(first)
	overwriteFrames(first)
	if formatFrames(second) != want || wholeText(b) != before {
		t.Errorf("ExpectedFrames returns memory of another result, or changes an argument: %s", formatFrames(second))
	}
	s := impl.Server{Clients: []impl.Client{{Out: withSpace(framesOf("ok", "end 0"), impl.Frame{Type: 77})}}}
	out := impl.ClientOut(s, 0)
	checkSeparate(t, "ClientOut", out, s)
	overwriteFrames(out)
	if got := formatFrames(impl.ClientOut(s, 0)); got != "ok & end 0" {
		t.Errorf("ClientOut returns memory of an argument: %s", got)
	}
	overwriteFrames(s.Clients[0].Out)
	// What arrives is copied.
	x := impl.FeedServer(mustServer(t, 1, 20), 0, b)
	overwriteBytes(b)
	checkSent(t, "bytes that were changed", impl.RunServer(x, 1), 0, framesOf(splitRows(want)...))
}

// TestLargeServersAreReturned has servers that do not fit together, with terms that contain themselves or that have
// more nodes than anything can visit.
func TestLargeServersAreReturned(t *testing.T) {
	x := number(1)
	for range 60 {
		x = structure("f", x, x)
	}
	p := slices.Repeat([]impl.Clause{{Head: x, Body: []impl.Term{selfContaining("f"), x}}}, 50)
	c := impl.Client{Program: p, Session: impl.Session{Program: p, Query: []impl.Term{x, selfContaining("g")}}, Waiting: slices.Repeat(framesOf("close"), 1000)}
	inTime(t, func() {
		for _, s := range []impl.Server{{Clients: []impl.Client{c}, Quota: 20}, {Clients: slices.Repeat([]impl.Client{c}, 20), Quota: 20}, {Clients: []impl.Client{{}, {Session: c.Session}}, Quota: 20}} {
			for _, got := range []impl.Server{impl.FeedServer(s, 0, nil), impl.TurnServer(s, 1), impl.RunServer(s, 1)} {
				if text := serverDifference(got, s); text != "" {
					t.Errorf("another server is returned: %.300s", text)
				}
			}
			if idle := impl.ServerIdle(s); idle != slowIdle(s) {
				t.Errorf("ServerIdle = %v", idle)
			}
		}
	})
}

// TestServersInTime has sessions for which each goal takes long, with slices of 1.
func TestServersInTime(t *testing.T) {
	t.Parallel()
	var p []impl.Clause
	for n := range impl.MaxClauses - 1 {
		p = append(p, impl.Clause{Head: structure("p", bush(100), number(n))})
	}
	p = append(p, impl.Clause{Head: structure("p", bush(100), variable(0)), Body: slices.Repeat([]impl.Term{structure("p", bush(100), number(99))}, impl.MaxGoals)})
	s := impl.Server{Quota: impl.MaxFuel}
	for range 4 {
		s.Clients = append(s.Clients, impl.Client{Active: true, Session: mustOpen(t, p, []impl.Term{structure("p", bush(100), number(99))}, impl.MaxFuel)})
	}
	var got impl.Server
	inTime(t, func() { got = impl.RunServer(s, 1) })
	for i := range 4 {
		checkSent(t, "a long session", got, i, framesOf("end 2"))
	}
}
