package tests

import (
	"fmt"
	"maps"
	"slices"
	"testing"

	"loop.example/prologserver/impl"
)

func isZeroClient(c impl.Client) bool {
	return len(c.In.Rest) == 0 && !c.In.Broken && len(c.Waiting) == 0 && len(c.Program) == 0 && !c.Active && isZeroSession(c.Session) && !c.Told && len(c.Out) == 0
}

func TestNewServer(t *testing.T) {
	if impl.MaxClients != 4 {
		t.Errorf("MaxClients is %d", impl.MaxClients)
	}
	for _, clients := range []int{leastInt, -1, 0, 1, 2, 3, 4, 5, 6, greatestInt} {
		for _, quota := range []int{leastInt, -1, 0, 1, impl.MaxFuel - 1, impl.MaxFuel, impl.MaxFuel + 1, greatestInt} {
			s, ok := impl.NewServer(clients, quota)
			if clients < 0 || clients > 4 || quota < 0 || quota > 300 {
				if ok || len(s.Clients) != 0 || s.Quota != 0 {
					t.Errorf("NewServer(%d, %d) = %v, %v", clients, quota, s, ok)
				}
				continue
			}
			if !ok || len(s.Clients) != clients || s.Quota != quota {
				t.Errorf("NewServer(%d, %d) = %v, %v", clients, quota, s, ok)
			}
			for i, c := range s.Clients {
				if !isZeroClient(c) || len(impl.ClientOut(s, i)) > 0 {
					t.Errorf("NewServer(%d, %d) has the client %v", clients, quota, c)
				}
			}
			if !impl.ServerIdle(s) {
				t.Errorf("ServerIdle = false for NewServer(%d, %d)", clients, quota)
			}
			// Nothing changes as long as no bytes arrive.
			checkServer(t, "a turn", impl.TurnServer(s, 1), s)
			checkServer(t, "a run", impl.RunServer(s, 1), s)
		}
	}
}

// TestServerExample goes through the example of the document, turn by turn.
func TestServerExample(t *testing.T) {
	s := mustServer(t, 1, impl.MaxFuel)
	frames := framesOf("load p(1).\n", "query p(A)")
	s = fed(t, s, 0, slowEncodedAll(frames))
	state := func(about string, waiting int, program string, active bool, out string) {
		t.Helper()
		c := s.Clients[0]
		if len(c.Waiting) != waiting || impl.FormatProgram(c.Program) != program || c.Active != active || formatFrames(c.Out) != out {
			t.Errorf("%s: %d frames wait, the program is %q, Active is %v, and %s was sent", about, len(c.Waiting), impl.FormatProgram(c.Program), c.Active, formatFrames(c.Out))
		}
		if !active && !isZeroSession(c.Session) {
			t.Errorf("%s: a client that is not Active has %s", about, formatSession(c.Session))
		}
		if idle := !active && waiting == 0; impl.ServerIdle(s) != idle {
			t.Errorf("%s: ServerIdle = %v", about, !idle)
		}
	}
	state("fed", 2, "", false, "")
	s = afterTurn(t, s, 1)
	state("a turn", 1, "p(1).\n", false, "ok")
	s = afterTurn(t, s, 1)
	state("two turns", 0, "p(1).\n", true, "ok")
	if got := formatSession(s.Clients[0].Session); got != "0 of 300 used, 0 sent, running, of p(A) for\np(1).\n" {
		t.Errorf("the session is %s", got)
	}
	s = afterTurn(t, s, 1)
	state("three turns", 0, "p(1).\n", false, "ok & answer A=1 & end 0")
	s = afterTurn(t, s, 1)
	state("four turns", 0, "p(1).\n", false, "ok & answer A=1 & end 0")
	checkSent(t, "the example", s, 0, framesOf("ok", "answer A=1", "end 0"))
	if got := impl.ExpectedFrames(slowEncodedAll(frames), impl.MaxFuel); formatFrames(got) != "ok & answer A=1 & end 0" {
		t.Errorf("ExpectedFrames = %s", formatFrames(got))
	}
}

// clientFor returns a client at which some of the things that are done in a turn apply.
func clientFor(t *testing.T, active bool, waiting bool, broken bool, told bool) impl.Client {
	t.Helper()
	c := impl.Client{In: impl.Decoder{Rest: []byte{0, 9}}, Program: mustProgram(t, "p(7).", "p(8)."), Told: told, Out: framesOf("ok", "end 4")}
	if active {
		// The session is the one of a query that came before this program.
		c.Active, c.Session = true, mustOpen(t, programOf(t, sliced), mustQuery(t, "p(A),A>1"), 50)
	}
	if waiting {
		c.Waiting = framesOf("query p(A)", "close", "error p")
	}
	if broken {
		c.In = impl.Decoder{Broken: true}
	}
	return c
}

func TestFeedServer(t *testing.T) {
	query, load := slowEncodedAll(framesOf("query p(A)")), slowEncodedAll(framesOf("load p(1).\n"))
	for _, c := range []struct {
		name    string
		parts   [][]byte
		waiting string
		rest    []byte
		broken  bool
	}{
		{"no bytes", [][]byte{nil, {}}, "", nil, false},
		{"a byte", [][]byte{{0}}, "", []byte{0}, false},
		{"a frame", [][]byte{query}, "query p(A)", nil, false},
		{"two frames", [][]byte{slices.Concat(load, query)}, "load p(1).\n & query p(A)", nil, false},
		{"the same frame twice", [][]byte{query, query}, "query p(A) & query p(A)", nil, false},
		{"frames in three parts", [][]byte{slices.Concat(load, query[:2]), query[2:5], slices.Concat(query[5:], load, load[:1])}, "load p(1).\n & query p(A) & load p(1).\n", load[:1], false},
		{"no bytes behind a part", [][]byte{query[:4], nil, {}}, "", query[:4], false},
		{"byte by byte", slices.Collect(slices.Chunk(slices.Concat(query, load), 1)), "query p(A) & load p(1).\n", nil, false},
		{"each type", [][]byte{slowEncodedAll(framesOf("load", "query", "close", "ok", "error", "answer", "end 0"))}, "load & query & close & ok & error & answer & end 0", nil, false},
		{"a broken frame", [][]byte{{0, 0}}, "", nil, true},
		{"bytes behind a broken frame", [][]byte{slices.Concat(query, []byte{0, 0}, load), load, nil, query}, "query p(A)", nil, true},
		{"a broken type", [][]byte{query, {0, 1}, {8}, query}, "query p(A)", nil, true},
	} {
		// Whatever the client is doing, its frames wait.
		for _, active := range []bool{false, true} {
			for client := range 3 {
				s := impl.Server{Clients: []impl.Client{{}, {}, {}}, Quota: 9}
				if active {
					s.Clients[client] = clientFor(t, true, false, false, false)
					s.Clients[client].In = impl.Decoder{}
				}
				before := s
				for _, part := range c.parts {
					s = fed(t, s, client, part)
				}
				x := s.Clients[client]
				if formatFrames(x.Waiting) != c.waiting || !sameDecoder(x.In, impl.Decoder{Rest: c.rest, Broken: c.broken}) {
					t.Errorf("%s: %s wait, and the decoder is %v", c.name, formatFrames(x.Waiting), x.In)
				}
				// Nothing else changes, neither at this client nor at others.
				x.In, x.Waiting = impl.Decoder{}, nil
				s.Clients[client] = x
				checkServer(t, c.name, s, before)
			}
		}
	}
}

// TestFeedingFramesBehindOthers feeds a client for which frames wait, and whose decoder is in the middle of a frame.
func TestFeedingFramesBehindOthers(t *testing.T) {
	c := clientFor(t, true, true, false, false)
	s := fed(t, impl.Server{Clients: []impl.Client{{}, c}, Quota: 5}, 1, append([]byte("\x02ABCDEFGH"), 0, 1, 4, 0))
	if got := formatFrames(s.Clients[1].Waiting); got != "query p(A) & close & error p & query ABCDEFGH & ok" || !slices.Equal(s.Clients[1].In.Rest, []byte{0}) {
		t.Errorf("%s wait, and the decoder is %v", got, s.Clients[1].In)
	}
	if !isZeroClient(s.Clients[0]) {
		t.Errorf("another client is %v", s.Clients[0])
	}
}

func TestClientsThatThereAreNot(t *testing.T) {
	b := slowEncodedAll(framesOf("query p(A)"))
	for clients := range 5 {
		s := mustServer(t, clients, 20)
		for i := range s.Clients {
			s.Clients[i] = clientFor(t, true, true, i%2 == 0, false)
		}
		for _, client := range []int{leastInt, -2, -1, clients, clients + 1, 4, greatestInt} {
			if client >= 0 && client < clients {
				continue
			}
			for _, part := range [][]byte{b, nil, {0, 0}} {
				checkServer(t, fmt.Sprintf("FeedServer of the client %d of %d", client, clients), impl.FeedServer(s, client, part), s)
			}
			if got := impl.ClientOut(s, client); len(got) > 0 {
				t.Errorf("ClientOut of the client %d of %d = %s", client, clients, formatFrames(got))
			}
		}
	}
	if got := impl.ClientOut(impl.Server{}, 0); len(got) > 0 {
		t.Errorf("ClientOut = %s", formatFrames(got))
	}
}

// TestClientOut also has servers that do not fit together: the frames were sent nevertheless.
func TestClientOut(t *testing.T) {
	for _, quota := range []int{-1, 0, 20, greatestInt} {
		for _, clients := range []int{1, 4, 5, 9} {
			s := impl.Server{Clients: make([]impl.Client, clients), Quota: quota}
			for i := range s.Clients {
				s.Clients[i].Out = append(framesOf("ok", "answer yes"), impl.Frame{Type: i, Text: fmt.Sprint("p", i)})
			}
			for i := range s.Clients {
				if got := impl.ClientOut(s, i); !slices.Equal(got, append(framesOf("ok", "answer yes"), impl.Frame{Type: i, Text: fmt.Sprint("p", i)})) {
					t.Errorf("ClientOut of the client %d of %d = %s", i, clients, formatFrames(got))
				}
			}
		}
	}
}

// fittingServer returns a server at whose clients everything applies.
func fittingServer(t *testing.T) impl.Server {
	t.Helper()
	s := impl.Server{Quota: 20}
	for range 3 {
		c := clientFor(t, true, true, false, false)
		// A session is given a slice, so that it is not as it was opened.
		c.Session, _ = impl.SliceSession(c.Session, 3)
		s.Clients = append(s.Clients, c)
	}
	return s
}

// misfitClients returns clients, made of a client of fittingServer, with which a server does not fit together.
func misfitClients(t *testing.T, fine impl.Client) map[string]impl.Client {
	t.Helper()
	bad := map[string]impl.Client{}
	add := func(name string, change func(c *impl.Client)) {
		c := fine
		change(&c)
		bad[name] = c
	}
	for name, d := range invalidDecoders() {
		add("a decoder: "+name, func(c *impl.Client) { c.In = d })
	}
	for name, f := range invalidFrames() {
		add("the first frame: "+name, func(c *impl.Client) { c.Waiting = slices.Concat([]impl.Frame{f}, c.Waiting) })
		add("the last frame: "+name, func(c *impl.Client) { c.Waiting = slices.Concat(c.Waiting, []impl.Frame{f}) })
	}
	for name, x := range invalidClauses() {
		add("the first clause: "+name, func(c *impl.Client) { c.Program = slices.Concat([]impl.Clause{x}, c.Program) })
		add("the last clause: "+name, func(c *impl.Client) { c.Program = slices.Concat(c.Program, []impl.Clause{x}) })
	}
	add("21 clauses", func(c *impl.Client) { c.Program = slices.Repeat(c.Program[:1], impl.MaxClauses+1) })
	for name, s := range invalidSessions(t) {
		add("a session: "+name, func(c *impl.Client) { c.Session = s })
	}
	for _, slice := range []int{4, 7, impl.MaxFuel} {
		add(fmt.Sprint("a session that has ended with ", slice), func(c *impl.Client) { c.Session, _ = impl.SliceSession(c.Session, slice) })
	}
	for _, text := range slicedQueries {
		for _, quota := range []int{0, 5, impl.MaxFuel} {
			ended, _ := impl.SliceSession(mustOpen(t, programOf(t, sliced), mustQuery(t, text), quota), impl.MaxFuel)
			add(fmt.Sprint("a session that has ended: ", text, " with ", quota), func(c *impl.Client) { c.Session = ended })
		}
	}
	return bad
}

// checkMisfit checks that a server that does not fit together is returned.
func checkMisfit(t *testing.T, about string, s impl.Server) {
	t.Helper()
	if slowFits(s) {
		t.Fatalf("%s: the server fits together", about)
	}
	check := func(name string, got impl.Server) {
		t.Helper()
		if text := serverDifference(got, s); text != "" {
			t.Fatalf("%s: %s returns another server: %.500s", about, name, text)
		}
	}
	check("FeedServer", impl.FeedServer(s, 0, []byte{0, 1, 3}))
	check("FeedServer of the last client", impl.FeedServer(s, len(s.Clients)-1, slowEncodedAll(framesOf("query p"))))
	check("TurnServer", impl.TurnServer(s, 1))
	check("RunServer", impl.RunServer(s, impl.MaxFuel))
}

// TestServersThatDoNotFit has, for each of the conditions, servers that miss it alone, at each client.
func TestServersThatDoNotFit(t *testing.T) {
	t.Parallel()
	s := fittingServer(t)
	for i := range s.Clients {
		if got := fed(t, s, i, nil); !slowFits(got) {
			t.Fatal("the server does not fit together")
		}
	}
	if got := afterRun(t, s, 1); formatFrames(impl.ClientOut(got, 2)) != "ok & end 4 & answer A=3 & end 0 & answer A=7 & answer A=8 & end 0 & ok & error type" {
		t.Fatalf("the server sends %s", formatFrames(impl.ClientOut(got, 2)))
	}
	misfits := misfitClients(t, s.Clients[0])
	for i, name := range slices.Sorted(maps.Keys(misfits)) {
		bad := s
		bad.Clients = slices.Clone(s.Clients)
		bad.Clients[i%3] = misfits[name]
		checkMisfit(t, fmt.Sprint(name, " of the client ", i%3), bad)
	}
	for _, quota := range []int{leastInt, -1, impl.MaxFuel + 1, greatestInt} {
		checkMisfit(t, fmt.Sprint("the quota ", quota), impl.Server{Clients: s.Clients, Quota: quota})
	}
	for _, clients := range []int{5, 6, 100} {
		checkMisfit(t, fmt.Sprint(clients, " clients"), impl.Server{Clients: slices.Repeat(s.Clients[:1], clients), Quota: 20})
		checkMisfit(t, fmt.Sprint(clients, " clients that are the zero value"), impl.Server{Clients: make([]impl.Client, clients), Quota: 20})
	}
}

// checkFit checks what is done with a client that no client makes with its bytes, but with which a server fits together.
func checkFit(t *testing.T, name string, c impl.Client, client int, quota int) {
	t.Helper()
	s := impl.Server{Clients: make([]impl.Client, 4), Quota: quota}
	s.Clients[client] = c
	if !slowFits(s) {
		t.Fatalf("%s: the server does not fit together", name)
	}
	checkServer(t, name, impl.TurnServer(s, 1), slowTurn(s, 1))
	checkServer(t, name, impl.RunServer(s, 3), slowRunServer(s, 3))
	got := fed(t, s, client, slowEncodedAll(framesOf("query p(A)")))
	if !c.In.Broken && len(got.Clients[client].Waiting) != len(c.Waiting)+1 {
		t.Errorf("%s: %s wait", name, formatFrames(got.Clients[client].Waiting))
	}
}

func TestServersThatFit(t *testing.T) {
	t.Parallel()
	sessions, frames := invalidSessions(t), invalidFrames()
	for n, name := range slices.Sorted(maps.Keys(sessions)) {
		x := sessions[name]
		// The session of a client that is not Active does not matter, and is replaced by the next one only.
		checkFit(t, name, impl.Client{Session: x, Waiting: framesOf("close")}, n%4, 10)
		if n%5 == 0 {
			checkFit(t, name, impl.Client{Session: x}, n%4, 10)
			checkFit(t, name, impl.Client{Session: x, Waiting: framesOf("load p(1).\n", "query p(A)", "close")}, n%4, 10)
		}
	}
	for n, name := range slices.Sorted(maps.Keys(frames)) {
		f := frames[name]
		checkFit(t, name, impl.Client{Out: []impl.Frame{f, f}, Waiting: framesOf("query p(A)")}, n%4, 10)
	}
	running := clientFor(t, true, true, true, true)
	for client := range 4 {
		for _, quota := range []int{0, 1, 49, 50, 51, impl.MaxFuel} {
			// The session keeps its own quota.
			checkFit(t, "another quota", running, client, quota)
		}
		checkFit(t, "told before", impl.Client{Told: true, Waiting: framesOf("query p(A)")}, client, 10)
		checkFit(t, "most clauses", impl.Client{Program: slices.Repeat(mustProgram(t, "p(1)."), impl.MaxClauses), Waiting: framesOf("query p(A)")}, client, 10)
		checkFit(t, "many frames", impl.Client{Waiting: slices.Repeat(framesOf("close"), 500)}, client, 10)
	}
}

// TestToldBefore has a client that was told of a broken decoder before its decoder breaks: it is not told again.
func TestToldBefore(t *testing.T) {
	s := impl.Server{Clients: []impl.Client{{Told: true}}, Quota: 10}
	s = fed(t, s, 0, []byte{0, 1, 3, 0, 0})
	s = afterRun(t, s, 1)
	checkSent(t, "told before", s, 0, framesOf("ok"))
}

func TestServerIdle(t *testing.T) {
	for clients := range 5 {
		if s := mustServer(t, clients, 0); !impl.ServerIdle(s) {
			t.Errorf("ServerIdle = false for %d clients", clients)
		}
	}
	if !impl.ServerIdle(impl.Server{}) {
		t.Error("ServerIdle = false without clients")
	}
	for n := range 16 {
		active, waiting, broken, told := n&1 != 0, n&2 != 0, n&4 != 0, n&8 != 0
		want := !active && !waiting && (!broken || told)
		for clients := 1; clients < 6; clients++ {
			for client := range clients {
				s := impl.Server{Clients: make([]impl.Client, clients), Quota: 20}
				for i := range s.Clients {
					s.Clients[i] = clientFor(t, false, false, i%2 == 0, true)
				}
				s.Clients[client] = clientFor(t, active, waiting, broken, told)
				// Whether a server has nothing to do does not depend on whether it fits together.
				for _, quota := range []int{20, -1, impl.MaxFuel + 1} {
					s.Quota = quota
					if got := impl.ServerIdle(s); got != want {
						t.Errorf("ServerIdle = %v if the client %d of %d is Active: %v, frames wait: %v, its decoder is broken: %v, and it was told: %v", got, client, clients, active, waiting, broken, told)
					}
				}
			}
		}
	}
}
