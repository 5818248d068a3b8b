package tests

import (
	"fmt"
	"slices"
	"testing"

	"loop.example/prologserver/impl"
)

func TestExpectedFramesWithQuotas(t *testing.T) {
	b := slowEncodedAll(framesOf("load p(1).\np(2).\nloop:-loop.\n", "query p(A),A>1", "query loop", "query p(A),loop", "close", "query p(A)"))
	for _, quota := range []int{leastInt, -300, -1, impl.MaxFuel + 1, impl.MaxFuel + 2, greatestInt} {
		for _, part := range [][]byte{b, nil, {0, 0}, slowEncodedAll(framesOf("close"))} {
			if got := impl.ExpectedFrames(part, quota); len(got) > 0 {
				t.Errorf("ExpectedFrames with the quota %d = %s", quota, formatFrames(got))
			}
		}
	}
	for quota, want := range map[int]string{
		0: "ok & end 2 & end 2 & end 2 & ok & end 2", 1: "ok & end 2 & end 2 & end 2 & ok & end 8", 2: "ok & end 2 & end 2 & end 2 & ok & end 8", 3: "ok & answer A=2 & end 0 & end 2 & end 2 & ok & end 8", impl.MaxFuel: "ok & answer A=2 & end 0 & end 2 & end 2 & ok & end 8",
	} {
		checkServed(t, fmt.Sprint("the quota ", quota), quota, b, framesOf(splitRows(want)...))
	}
	for quota := range impl.MaxFuel + 1 {
		if got, want := impl.ExpectedFrames(b, quota), slowExpected(b, quota); !slices.Equal(got, want) {
			t.Errorf("ExpectedFrames with the quota %d = %s, not %s", quota, formatFrames(got), formatFrames(want))
		}
		if got := impl.ExpectedFrames(nil, quota); len(got) > 0 {
			t.Errorf("ExpectedFrames of no bytes = %s", formatFrames(got))
		}
	}
}

// TestSlicesOfRuns runs servers with slices of each size, also past the quota, and compares what is sent.
func TestSlicesOfRuns(t *testing.T) {
	b := slowEncodedAll(framesOf("load p(1).\np(2).\np(3).\nloop:-loop.\n", "query p(A),p(B),A>B", "query p(A)", "query p(A),loop", "query loop", "query p(A),p(B),p(C)", "ok"))
	for _, quota := range []int{0, 5, 13, impl.MaxFuel} {
		want := slowExpected(b, quota)
		s := fed(t, mustServer(t, 1, quota), 0, b)
		for slice := range impl.MaxFuel + 3 {
			got := impl.RunServer(s, slice)
			if slice == 0 {
				checkServer(t, "a run with a slice of 0", got, s)
				continue
			}
			checkSent(t, fmt.Sprint("a slice of ", slice), got, 0, want)
		}
	}
}

// clientFrame returns a frame that a client could send, mostly one that a server understands.
func (s *source) clientFrame() impl.Frame {
	text := impl.FormatProgram(s.knownProgram())
	query := writeAll(s.knownQuery())
	switch s.below(20) {
	case 0:
		return impl.Frame{Type: impl.FrameClose}
	case 1:
		return impl.Frame{Type: 3 + s.below(5), Text: query}
	case 2:
		return impl.Frame{Type: impl.FrameLoad, Text: text[:s.below(len(text)+1)]}
	case 3:
		return impl.Frame{Type: impl.FrameQuery, Text: query[:s.below(len(query)+1)]}
	case 4, 5, 6, 7, 8:
		return impl.Frame{Type: impl.FrameLoad, Text: text[:min(len(text), impl.MaxPayload)]}
	}
	return impl.Frame{Type: impl.FrameQuery, Text: query}
}

// stream returns bytes of a client: frames that are valid, or some of which are broken or not complete.
func (s *source) stream() []byte {
	list := []impl.Frame{{Type: impl.FrameLoad, Text: impl.FormatProgram(s.knownProgram())}}
	for range s.below(7) {
		list = append(list, s.clientFrame())
	}
	// Not every client begins with a program.
	list = list[s.below(8)/7:]
	b := slowEncodedAll(list)
	switch s.below(5) {
	case 0:
		return s.changed(b)
	case 1:
		return slices.Concat(slowEncodedAll(list[:s.below(len(list)+1)]), []byte{0, 0}, b)
	}
	return b
}

// someQuota returns a quota that is mostly small.
func (s *source) someQuota() int {
	return []int{s.below(5), s.below(60), s.below(60), s.below(60), s.below(60), s.below(60), s.below(60), impl.MaxFuel}[s.below(8)]
}

// serve gives streams to the clients of a server in random parts, with random turns between them, and runs it to its
// end. It compares each server with the one that the document says, if compare holds.
func (s *source) serve(t *testing.T, streams [][]byte, quota int, compare bool) impl.Server {
	t.Helper()
	x, want := mustServer(t, len(streams), quota), mustServer(t, len(streams), quota)
	check := func(about string) {
		t.Helper()
		if compare {
			checkServer(t, about, x, want)
		}
	}
	rest := slices.Clone(streams)
	most := []int{3, 20, 100, 3000}[s.below(4)]
	for steps := 0; slices.ContainsFunc(rest, func(b []byte) bool { return len(b) > 0 }); steps++ {
		i := s.below(len(rest))
		size := min(s.below(most+1), len(rest[i]))
		if steps > 60 {
			size = len(rest[i])
		}
		part := rest[i][:size]
		rest[i] = rest[i][size:]
		x = impl.FeedServer(x, i, part)
		if compare {
			want = slowFeed(want, i, part)
		}
		check("FeedServer")
		for range s.below(4) {
			slice := []int{1, 1 + s.below(5), 1 + s.below(400)}[s.below(3)]
			x = impl.TurnServer(x, slice)
			if compare {
				want = slowTurn(want, slice)
			}
			check("TurnServer")
		}
	}
	slice := []int{1, 2, 7, impl.MaxFuel}[s.below(4)]
	x = impl.RunServer(x, slice)
	if compare {
		want = slowRunServer(want, slice)
	}
	check("RunServer")
	return x
}

// checkStreams checks what the clients of a server are sent for their bytes.
func checkStreams(t *testing.T, about string, x impl.Server, wants [][]impl.Frame) {
	t.Helper()
	for i, want := range wants {
		checkSent(t, about, x, i, want)
	}
	if !impl.ServerIdle(x) {
		t.Fatalf("%s: ServerIdle = false", about)
	}
}

// TestManyStreams serves random streams in random parts, to one client and to four clients.
func TestManyStreams(t *testing.T) {
	for part := range 8 {
		t.Run(fmt.Sprint(part), func(t *testing.T) {
			t.Parallel()
			s := source{state: uint32(1200 + part)}
			counts := map[string]int{}
			for n := range 125 {
				quota := s.someQuota()
				compare := n%10 == 0
				var streams [][]byte
				var wants [][]impl.Frame
				for range 4 {
					b := s.stream()
					want := slowExpected(b, quota)
					streams, wants = append(streams, b), append(wants, want)
					if got := impl.ExpectedFrames(b, quota); !slices.Equal(got, want) {
						t.Fatalf("ExpectedFrames = %s, not %s", formatFrames(got), formatFrames(want))
					}
					countSent(counts, want)
					checkStreams(t, "one client", s.serve(t, [][]byte{b}, quota, compare), [][]impl.Frame{want})
				}
				checkStreams(t, "four clients", s.serve(t, streams, quota, compare), wants)
				checkOrders(t, streams, wants, quota, []int{0, 1, 7, impl.MaxFuel}[n%4])
			}
			if counts["answer"] < 250 || counts["end"] < 500 || counts["error frame"] < 100 || counts["error program"] < 30 || counts["error query"] < 15 || counts["error type"] < 30 || counts["several"] < 40 {
				t.Errorf("the clients are sent only %v", counts)
			}
		})
	}
}

// countSent counts what a client is sent.
func countSent(counts map[string]int, list []impl.Frame) {
	row := 0
	for _, f := range list {
		name := frameNames[f.Type-1]
		if f.Type == impl.FrameError {
			name += " " + f.Text
		}
		counts[name]++
		if f.Type != impl.FrameAnswer {
			row = 0
			continue
		}
		if row++; row == 2 {
			counts["several"]++
		}
	}
}

// checkOrders feeds whole streams in the order of the clients and in the other one, with a run between them if the
// slice is not 0.
func checkOrders(t *testing.T, streams [][]byte, wants [][]impl.Frame, quota int, slice int) {
	t.Helper()
	forward, backward := mustServer(t, len(streams), quota), mustServer(t, len(streams), quota)
	for i := range streams {
		last := len(streams) - 1 - i
		forward = impl.RunServer(impl.FeedServer(forward, i, streams[i]), slice)
		backward = impl.RunServer(impl.FeedServer(backward, last, streams[last]), slice)
	}
	forward, backward = impl.RunServer(forward, 1), impl.RunServer(backward, 7)
	checkStreams(t, "forward", forward, wants)
	checkServer(t, "backward", backward, forward)
}

// TestAllSplitsOfAStream cuts a stream in all ways into two and three parts, with a turn behind each.
func TestAllSplitsOfAStream(t *testing.T) {
	t.Parallel()
	whole := slowEncodedAll(framesOf("load p(1).\np(2).\n", "query p(A)", "ok", "query q", "close"))
	for _, b := range [][]byte{whole, append(slices.Clone(whole), 0, 0, 1, 3)} {
		want := slowExpected(b, 9)
		if len(want) < 7 {
			t.Fatalf("the client is sent %s", formatFrames(want))
		}
		for i := range len(b) + 1 {
			first := impl.TurnServer(impl.FeedServer(mustServer(t, 1, 9), 0, b[:i]), 1)
			for j := i; j <= len(b); j += 3 {
				s := impl.TurnServer(impl.FeedServer(first, 0, b[i:j]), 1)
				checkSent(t, fmt.Sprintf("cut at %d and %d", i, j), impl.RunServer(impl.FeedServer(s, 0, b[j:]), 1), 0, want)
			}
		}
	}
}

// TestRandomBytesOfClients has bytes that mostly have no frames.
func TestRandomBytesOfClients(t *testing.T) {
	s := source{state: 1209}
	told := 0
	for range 3000 {
		var b []byte
		for range s.below(14) {
			b = append(b, s.someByte())
		}
		if s.below(2) == 0 {
			b = s.changed(slowEncodedAll(s.frames(2)))
		}
		want := slowExpected(b, 9)
		if got := impl.ExpectedFrames(b, 9); !slices.Equal(got, want) {
			t.Fatalf("ExpectedFrames = %s, not %s", formatFrames(got), formatFrames(want))
		}
		if slices.Contains(want, impl.Frame{Type: impl.FrameError, Text: "frame"}) {
			told++
		}
		cut := s.below(len(b) + 1)
		x := impl.FeedServer(mustServer(t, 3, 9), 1, b[:cut])
		if cut%2 == 0 {
			x = impl.TurnServer(x, 1)
		}
		x = impl.RunServer(impl.FeedServer(x, 1, b[cut:]), 1+s.below(9))
		checkSent(t, "random bytes", x, 1, want)
	}
	if told < 500 {
		t.Errorf("only %d clients are told of a broken decoder", told)
	}
}

// TestLongStreams has streams with many frames and many bytes.
func TestLongStreams(t *testing.T) {
	t.Parallel()
	frames := []impl.Frame{{Type: impl.FrameLoad, Text: "p(1).\np(2).\n"}}
	for range 3000 {
		frames = append(frames, framesOf("query p(A)", "close", "query p(A)", "load p(3).\n", "answer")...)
	}
	b := slowEncodedAll(frames)
	for _, bytes := range [][]byte{b, slices.Concat(b, []byte{7, 255}, b), slices.Repeat([]byte{0, 1, 3}, 100000)} {
		inTime(t, func() {
			want := countExpected(bytes)
			s := impl.RunServer(impl.FeedServer(mustServer(t, 2, 9), 1, bytes), 1)
			if got := impl.ClientOut(s, 1); len(got) != want || !slices.Equal(got, impl.ExpectedFrames(bytes, 9)) {
				t.Errorf("the client is sent %d frames, not %d", len(got), want)
			}
		})
	}
}

// countExpected returns how many frames a client is sent for the streams of TestLongStreams.
func countExpected(b []byte) int {
	_, frames := slowDecoded(b)
	count := 0
	for i, f := range frames {
		switch {
		case f.Type == impl.FrameQuery && i == 1:
			count += 3
		case f.Type == impl.FrameQuery && frames[i-1].Type != impl.FrameClose:
			count += 2
		default:
			count++
		}
	}
	d, _ := slowDecoded(b)
	if d.Broken {
		count++
	}
	return count
}
