package tests

import (
	"bytes"
	"fmt"
	"slices"
	"testing"

	"loop.example/prologserver/impl"
)

// feeding is a part that a decoder is given, the frames that it returns, and what the decoder is then.
type feeding struct {
	part   []byte
	frames []impl.Frame
	rest   []byte
	broken bool
}

// checkFeedings gives parts to a fresh decoder, one after the other.
func checkFeedings(t *testing.T, name string, list ...feeding) {
	t.Helper()
	var d impl.Decoder
	for i, x := range list {
		next, frames := impl.FeedDecoder(d, x.part)
		if !slices.Equal(frames, x.frames) || !bytes.Equal(next.Rest, x.rest) || next.Broken != x.broken {
			t.Errorf("%s: the part %d returns %v, and makes the decoder %v", name, i, frames, next)
		}
		if !impl.DecoderValid(next) {
			t.Errorf("%s: DecoderValid = false behind the part %d: %v", name, i, next)
		}
		d = next
	}
}

// one returns a list of one frame.
func one(kind int, text string) []impl.Frame {
	return []impl.Frame{{Type: kind, Text: text}}
}

func TestFeedDecoder(t *testing.T) {
	query, end := one(impl.FrameQuery, "p")[0], one(impl.FrameEnd, "")[0]
	both := []impl.Frame{query, end}
	checkFeedings(t, "no bytes", feeding{}, feeding{part: []byte{}}, feeding{part: []byte{0}, rest: []byte{0}}, feeding{rest: []byte{0}})
	checkFeedings(t, "a whole frame", feeding{part: []byte{0, 2, 2, 112}, frames: both[:1]}, feeding{part: []byte{0, 1, 7}, frames: both[1:]}, feeding{})
	checkFeedings(t, "two frames", feeding{part: []byte{0, 2, 2, 112, 0, 1, 7}, frames: both}, feeding{part: []byte{0, 1, 7, 0, 1, 7}, frames: []impl.Frame{end, end}})
	checkFeedings(t, "byte by byte",
		feeding{part: []byte{0}, rest: []byte{0}}, feeding{part: []byte{2}, rest: []byte{0, 2}}, feeding{part: []byte{2}, rest: []byte{0, 2, 2}}, feeding{part: []byte{112}, frames: both[:1]},
		feeding{part: []byte{0}, rest: []byte{0}}, feeding{part: []byte{1}, rest: []byte{0, 1}}, feeding{part: []byte{7}, frames: both[1:]})
	checkFeedings(t, "a length in two parts",
		feeding{part: []byte{0, 1, 7, 0}, frames: both[1:], rest: []byte{0}}, feeding{part: []byte{2, 2, 112, 1}, frames: both[:1], rest: []byte{1}}, feeding{part: slowEncoded(5, ofSize(299))[1:], frames: one(impl.FrameError, ofSize(299))})
	checkFeedings(t, "a greatest length in two parts",
		feeding{part: []byte{7}, rest: []byte{7}}, feeding{part: []byte{209}, rest: []byte{7, 209}}, feeding{rest: []byte{7, 209}}, feeding{part: slowEncoded(1, ofSize(2000))[2:], frames: one(impl.FrameLoad, ofSize(2000))})
	checkFeedings(t, "behind a length", feeding{part: []byte{0, 1, 7, 0, 2}, frames: both[1:], rest: []byte{0, 2}}, feeding{part: []byte{2, 112, 0, 1}, frames: both[:1], rest: []byte{0, 1}}, feeding{part: []byte{7}, frames: both[1:]})
	checkFeedings(t, "behind a type", feeding{part: []byte{0, 2, 2}, rest: []byte{0, 2, 2}}, feeding{part: []byte{112, 0, 2, 2}, frames: both[:1], rest: []byte{0, 2, 2}}, feeding{part: []byte{112}, frames: both[:1]})
	checkFeedings(t, "behind a frame", feeding{part: []byte{0, 1, 7}, frames: both[1:]}, feeding{part: []byte{0, 2, 2, 112}, frames: both[:1]}, feeding{part: []byte{0, 1, 7}, frames: both[1:]})
	checkFeedings(t, "without a text", feeding{part: []byte{0, 1}, rest: []byte{0, 1}}, feeding{part: []byte{3, 0, 1, 4, 0, 1, 1}, frames: []impl.Frame{{Type: 3}, {Type: 4}, {Type: 1}}})
}

// TestBrokenDecoders has bytes behind those that break a decoder, and frames before them.
func TestBrokenDecoders(t *testing.T) {
	fine := []byte{0, 1, 7}
	end := one(impl.FrameEnd, "")
	both := []impl.Frame{end[0], end[0]}
	for name, b := range brokenBytes() {
		checkFeedings(t, name, feeding{part: b, broken: true}, feeding{part: fine, broken: true}, feeding{broken: true})
		checkFeedings(t, name+" and bytes in the same part", feeding{part: slices.Concat(b, fine, fine), broken: true}, feeding{part: fine, broken: true})
		checkFeedings(t, name+" behind a frame", feeding{part: slices.Concat(fine, b), frames: end, broken: true}, feeding{part: fine, broken: true})
		checkFeedings(t, name+" behind a part", feeding{part: fine, frames: end}, feeding{part: b, broken: true}, feeding{part: fine, broken: true})
		checkFeedings(t, name+" between frames", feeding{part: slices.Concat(fine, fine, b, fine), frames: both, broken: true}, feeding{part: fine, broken: true})
		checkFeedings(t, name+" behind a half", feeding{part: slices.Concat(fine, fine[:2]), frames: end, rest: fine[:2]}, feeding{part: slices.Concat(fine[2:], b), frames: end, broken: true}, feeding{part: b, broken: true})
	}
}

// TestWhenADecoderBreaks gives bytes one by one: it breaks with the last byte of a length or of a frame, and not before.
func TestWhenADecoderBreaks(t *testing.T) {
	for name, c := range map[string]struct {
		b  []byte
		at int
	}{
		"a length of 0": {[]byte{0, 0, 1, 7}, 1}, "a length of 2002": {[]byte{7, 210, 1, 7}, 1}, "a length of 2048": {[]byte{8, 0, 1, 7}, 1}, "a length of 65281": {[]byte{255, 1, 7, 0}, 1},
		"a type without a text": {[]byte{0, 1, 8, 0, 1, 7}, 2}, "a type with a text": {[]byte{0, 4, 0, 'p', 'q', 'r', 0, 1}, 5}, "a type with a wrong text": {[]byte{0, 3, 255, 0, 0, 0}, 4},
		"the first byte of a text": {[]byte{0, 4, 2, 9, 'q', 'r', 0, 1, 7}, 5}, "the last byte of a text": {[]byte{0, 4, 2, 'p', 'q', 127, 0, 1, 7}, 5}, "the type of a long frame": {append(slowEncoded(8, ofSize(2000)), 0, 1, 7), 2002}, "a byte of a long frame": {append(slowEncoded(1, "\r"+ofSize(1999)), 0, 1, 7), 2002}, "the only byte": {[]byte{0, 2, 7, 0, 0, 1, 7}, 3},
	} {
		var d impl.Decoder
		for i, part := range slices.Collect(slices.Chunk(c.b, 1)) {
			next, frames := impl.FeedDecoder(d, part)
			want := c.b[:i+1]
			if i >= c.at {
				want = nil
			}
			if next.Broken != (i >= c.at) || !bytes.Equal(next.Rest, want) || len(frames) > 0 || !impl.DecoderValid(next) {
				t.Fatalf("%s: the byte %d returns %v, and makes a decoder with %d bytes %v, %v", name, i, frames, len(next.Rest), someBytes(next.Rest), next.Broken)
			}
			d = next
		}
	}
}

// TestAllSplits cuts bytes in all ways into two and into three parts.
func TestAllSplits(t *testing.T) {
	lists := [][]byte{nil, slowEncodedAll([]impl.Frame{{Type: 2, Text: "p(A)"}, {Type: 3}, {Type: 4}, {Type: 1, Text: "p(1).\n"}, {Type: 7, Text: "0"}}), slices.Concat(slowEncoded(1, ""), slowEncoded(1, ""), slowEncoded(1, ""), []byte{0, 9, 4}), slices.Concat(slowEncoded(6, "A=1"), []byte{7, 209, 0, 0, 0})}
	for _, b := range [][]byte{{0, 0}, {7, 210}, {8, 0}, {0, 1, 0}, {0, 3, 8, 'p', 'q'}, {0, 3, 2, 'p', 9}, {0, 3, 2, 200, 'q'}} {
		lists = append(lists, b, slices.Concat(slowEncoded(2, "p(A)"), slowEncoded(3, ""), b), slices.Concat(slowEncoded(3, ""), b, slowEncoded(2, "p"), slowEncoded(3, "")))
	}
	for _, b := range lists {
		checkSplits(t, b)
	}
}

// TestAllShortBytes feeds all short lists of some bytes, in all ways to cut them into two parts.
func TestAllShortBytes(t *testing.T) {
	t.Parallel()
	kinds := []byte{0, 1, 2, 7, 8, 'p'}
	var extend func(b []byte)
	extend = func(b []byte) {
		checkDecodeAll(t, b)
		for i := range len(b) + 1 {
			d := checkFeed(t, impl.Decoder{}, nil, b[:i])
			checkFeed(t, d, b[:i], b[i:])
		}
		d := impl.Decoder{Rest: b}
		if got := impl.DecoderValid(d); got != slowDecoderValid(d) {
			t.Fatalf("DecoderValid = %v with the bytes %v", got, b)
		}
		if len(b) == 6 {
			return
		}
		for _, next := range kinds {
			extend(append(b[:len(b):len(b)], next))
		}
	}
	extend(nil)
}

// TestLongFramesInParts cuts bytes of long frames near the places where something begins, and byte by byte.
func TestLongFramesInParts(t *testing.T) {
	t.Parallel()
	b := slowEncodedAll([]impl.Frame{{Type: 1, Text: ofSize(2000)}, {Type: 2, Text: ofSize(254)}, {Type: 3, Text: ofSize(255)}, {Type: 4}, {Type: 5, Text: ofSize(1999)}, {Type: 6, Text: ofSize(2000)}})
	var cuts []int
	at := 0
	for _, size := range []int{2003, 257, 258, 3, 2002, 2003} {
		for i := range 5 {
			cuts = append(cuts, min(at+i, len(b)))
		}
		at += size
		cuts = append(cuts, at-2, at-1, at)
	}
	slices.Sort(cuts)
	for i, first := range cuts {
		checkParts(t, b[:first], b[first:])
		for _, second := range cuts[i:] {
			checkParts(t, b[:first], b[first:second], b[second:])
		}
	}
	broken := slices.Concat(b, []byte{0, 0}, b)
	for _, size := range []int{1, 2, 3, 7, 100, 2000, 2003, 2004, 4006, len(b), len(broken)} {
		checkParts(t, slices.Collect(slices.Chunk(b, size))...)
		checkParts(t, slices.Collect(slices.Chunk(broken, size))...)
	}
}

// TestFramesBehindFramesOfEachSize has a frame of each size before others, so that those begin everywhere.
func TestFramesBehindFramesOfEachSize(t *testing.T) {
	t.Parallel()
	behind := slowEncodedAll([]impl.Frame{{Type: 2, Text: ofSize(2000)}, {Type: 3}, {Type: 4, Text: "p"}, {Type: 1, Text: ofSize(1998)}, {Type: 6, Text: "A=1"}})
	for size := range impl.MaxPayload + 1 {
		b := append(slowEncoded(1, ofSize(size)), behind...)
		checkParts(t, b)
		checkParts(t, b[:size/2], b[size/2:])
		checkParts(t, b, []byte{0, 0, 1, 7})
	}
}

// TestManyParts cuts random bytes into random parts, some of which are empty.
func TestManyParts(t *testing.T) {
	t.Parallel()
	s := source{state: 1103}
	complete, broken, incomplete, empty := 0, 0, 0, 0
	for n := range 6000 {
		b := slowEncodedAll(s.frames(6))
		if n%3 > 0 {
			b = s.changed(b)
		}
		d, _ := slowDecoded(b)
		switch {
		case d.Broken:
			broken++
		case len(d.Rest) > 0:
			incomplete++
		default:
			complete++
		}
		var parts [][]byte
		most := []int{2, 5, 50, 3000}[s.below(4)]
		for rest := b; len(rest) > 0; {
			size := min(s.below(most), len(rest))
			if len(parts) > 60 {
				size = len(rest)
			}
			if size == 0 {
				empty++
			}
			parts = append(parts, rest[:size])
			rest = rest[size:]
		}
		checkParts(t, parts...)
	}
	if complete < 1000 || broken < 1000 || incomplete < 500 || empty < 1000 {
		t.Errorf("%d lists are complete, %d break the decoder, %d are not complete, and %d parts are empty", complete, broken, incomplete, empty)
	}
}

// invalidDecoders returns decoders that are not valid, by what is wrong.
func invalidDecoders() map[string]impl.Decoder {
	list := map[string]impl.Decoder{}
	for name, b := range map[string][]byte{"a byte": {0}, "a length": {0, 1}, "a part of a frame": {0, 2, 2}, "a frame": {0, 1, 7}, "a length of 0": {0, 0}, "many bytes": []byte(ofSize(5000))} {
		list["broken with "+name] = impl.Decoder{Rest: b, Broken: true}
	}
	for name, b := range brokenBytes() {
		list[name] = impl.Decoder{Rest: b}
		list[name+" behind a frame"] = impl.Decoder{Rest: append([]byte{0, 1, 7}, b...)}
	}
	for _, size := range []int{0, 1, 254, 255, 1999, 2000} {
		whole := slowEncoded(2, ofSize(size))
		list[fmt.Sprint("a frame of ", size)] = impl.Decoder{Rest: whole}
		list[fmt.Sprint("a frame and a byte behind ", size)] = impl.Decoder{Rest: slices.Concat(whole, []byte{0})}
		list[fmt.Sprint("a frame and a frame behind ", size)] = impl.Decoder{Rest: slices.Concat(whole, whole)}
		list[fmt.Sprint("a frame of a wrong type of ", size)] = impl.Decoder{Rest: slowEncoded(0, ofSize(size))}
	}
	list["many frames"] = impl.Decoder{Rest: slices.Repeat([]byte{0, 1, 7}, 100000)}
	list["many bytes"] = impl.Decoder{Rest: slices.Repeat([]byte{7}, 100000)}
	return list
}

func TestInvalidDecoders(t *testing.T) {
	for name, d := range invalidDecoders() {
		if impl.DecoderValid(d) || slowDecoderValid(d) {
			t.Errorf("%s: DecoderValid = %v", name, impl.DecoderValid(d))
		}
		for _, part := range [][]byte{nil, {}, {0}, {7}, {0, 1, 7}, {0, 0}, slowEncoded(1, ofSize(2000)), slowEncodedAll(someFrames())} {
			if next, frames := impl.FeedDecoder(d, part); !sameDecoder(next, d) || len(frames) > 0 {
				t.Errorf("%s: FeedDecoder = %d frames, and a decoder with %d bytes %v, %v", name, len(frames), len(next.Rest), someBytes(next.Rest), next.Broken)
			}
		}
	}
}

func TestFeedingABrokenDecoder(t *testing.T) {
	for _, rest := range [][]byte{nil, {}} {
		d := impl.Decoder{Rest: rest, Broken: true}
		if !impl.DecoderValid(d) {
			t.Error("DecoderValid = false for a decoder that is broken")
		}
		for _, part := range [][]byte{nil, {}, {0}, {0, 1, 7}, {0, 0}, slowEncodedAll(someFrames())} {
			if next, frames := impl.FeedDecoder(d, part); !sameDecoder(next, d) || len(frames) > 0 {
				t.Errorf("FeedDecoder = %v, %v, for a decoder that is broken", next, frames)
			}
		}
	}
}

// TestDecoderValid has Rests of each size, which begin with each length.
func TestDecoderValid(t *testing.T) {
	t.Parallel()
	check := func(rest []byte, want bool) {
		t.Helper()
		if got := impl.DecoderValid(impl.Decoder{Rest: rest}); got != want {
			t.Fatalf("DecoderValid = %v for %d bytes %v", got, len(rest), someBytes(rest))
		}
		if got := impl.DecoderValid(impl.Decoder{Rest: rest, Broken: true}); got != (len(rest) == 0) {
			t.Fatalf("DecoderValid = %v for a broken decoder with %d bytes %v", got, len(rest), someBytes(rest))
		}
	}
	check(nil, true)
	check([]byte{}, true)
	for high := range 256 {
		check([]byte{byte(high)}, true)
		for low := range 256 {
			length := high*256 + low
			allowed := length >= 1 && length <= 2001
			check([]byte{byte(high), byte(low)}, allowed)
			// The bytes behind a length do not matter until they are all there.
			for _, filler := range []byte{0, 'p', 255} {
				check([]byte{byte(high), byte(low), filler}, allowed && length > 1)
				check([]byte{byte(high), byte(low), filler, filler}, allowed && length > 2)
			}
		}
	}
	for _, length := range []int{1, 2, 3, 254, 255, 256, 257, 2000, 2001, 2002, 2003, 2048, 65535} {
		for _, kind := range []byte{0, 1, 7, 8, 255} {
			for size := max(length-3, 0); size < length+5; size++ {
				rest := slices.Concat([]byte{byte(length / 256), byte(length % 256), kind}, bytes.Repeat([]byte{kind}, size))
				check(rest, length <= 2001 && len(rest) < 2+length)
			}
		}
	}
}

// TestDecodersOfAllKinds gives bytes to decoders that no decoder has become, but that are valid.
func TestDecodersOfAllKinds(t *testing.T) {
	t.Parallel()
	s := source{state: 1104}
	counts := map[bool]int{}
	for range 20000 {
		rest := s.changed(slowEncoded(s.someByte(), s.text()))
		rest = rest[:s.below(len(rest)+1)]
		d := impl.Decoder{Rest: rest, Broken: s.below(10) == 0}
		valid := slowDecoderValid(d)
		if got := impl.DecoderValid(d); got != valid {
			t.Fatalf("DecoderValid = %v for %d bytes %v, %v", got, len(rest), someBytes(rest), d.Broken)
		}
		counts[valid]++
		part := s.changed(slowEncodedAll(s.frames(3)))
		if valid && !d.Broken {
			checkFeed(t, d, rest, part)
			whole := s.text()
			// What completes the frame, as far as it can be completed.
			checkFeed(t, d, rest, slices.Concat([]byte(whole), part))
			continue
		}
		if next, frames := impl.FeedDecoder(d, part); !sameDecoder(next, d) || len(frames) > 0 {
			t.Fatalf("FeedDecoder = %v, %d frames, for %d bytes %v, %v", next, len(frames), len(rest), someBytes(rest), d.Broken)
		}
	}
	if counts[true] < 5000 || counts[false] < 3000 {
		t.Errorf("%d decoders are valid, and %d are not", counts[true], counts[false])
	}
}
