package tests

import (
	"bytes"
	"fmt"
	"slices"
	"strings"
	"testing"

	"loop.example/prologserver/impl"
)

// ofSize returns a text of allowed bytes.
func ofSize(size int) string {
	return strings.Repeat(allowedBytes, size/len(allowedBytes)+1)[:size]
}

// forbiddenBytes returns the bytes that no text of a frame can have.
func forbiddenBytes() []byte {
	var list []byte
	for i := range 256 {
		if i != 10 && (i < 32 || i > 126) {
			list = append(list, byte(i))
		}
	}
	return list
}

// invalidFrames returns frames that are not valid, by what is wrong.
func invalidFrames() map[string]impl.Frame {
	frames := map[string]impl.Frame{
		"nothing":     {},
		"a long text": {Type: impl.FrameLoad, Text: ofSize(impl.MaxPayload + 1)},
		// The last two bytes of its length are 0 and 1.
		"a very long text":   {Type: impl.FrameLoad, Text: ofSize(1 << 16)},
		"letters of two":     {Type: impl.FrameOk, Text: "\u00e4"},
		"newline and return": {Type: impl.FrameOk, Text: "a\r\n"},
	}
	for _, kind := range []int{leastInt, -257, -255, -2, -1, 0, 8, 9, 255, 256, 257, 258, greatestInt} {
		frames[fmt.Sprint("type ", kind)] = impl.Frame{Type: kind}
		frames[fmt.Sprint("type ", kind, " with a text")] = impl.Frame{Type: kind, Text: "p(A)"}
	}
	for _, b := range forbiddenBytes() {
		for i, size := range []int{0, 5, 1999} {
			text := ofSize(size)
			frames[fmt.Sprint("byte ", b, " at the end of ", i)] = impl.Frame{Type: impl.FrameQuery, Text: text + string([]byte{b})}
			frames[fmt.Sprint("byte ", b, " at the beginning of ", i)] = impl.Frame{Type: impl.FrameQuery, Text: string([]byte{b}) + text}
			frames[fmt.Sprint("byte ", b, " in the middle of ", i)] = impl.Frame{Type: impl.FrameQuery, Text: text[:size/2] + string([]byte{b}) + text[size/2:]}
		}
	}
	return frames
}

func TestTypesOfFrames(t *testing.T) {
	types := []int{impl.FrameLoad, impl.FrameQuery, impl.FrameClose, impl.FrameOk, impl.FrameError, impl.FrameAnswer, impl.FrameEnd}
	if !slices.Equal(types, []int{1, 2, 3, 4, 5, 6, 7}) || impl.MaxPayload != 2000 {
		t.Errorf("the types are %v, and MaxPayload is %d", types, impl.MaxPayload)
	}
}

func TestFrameValid(t *testing.T) {
	check := func(f impl.Frame, want bool) {
		t.Helper()
		if got := impl.FrameValid(f); got != want || got != slowFrameValid(f) {
			t.Errorf("FrameValid = %v for the type %d and %d bytes %q", got, f.Type, len(f.Text), f.Text[:min(len(f.Text), 20)])
		}
	}
	for _, kind := range []int{leastInt, leastInt + 1, -1, 0, 1, 2, 3, 4, 5, 6, 7, 8, 256, 257, 263, 264, greatestInt} {
		for _, text := range []string{"", "p", "p(1).\n", ofSize(impl.MaxPayload)} {
			check(impl.Frame{Type: kind, Text: text}, kind >= 1 && kind <= 7)
		}
		check(impl.Frame{Type: kind, Text: "\t"}, false)
		check(impl.Frame{Type: kind, Text: ofSize(impl.MaxPayload + 1)}, false)
	}
	for kind := 1; kind <= 7; kind++ {
		for size, want := range map[int]bool{0: true, 1: true, 1999: true, 2000: true, 2001: false, 2002: false, 4000: false, 65535: false, 65536: false, 1000000: false} {
			check(impl.Frame{Type: kind, Text: ofSize(size)}, want)
		}
		for i := range 256 {
			allowed := i == 10 || i >= 32 && i <= 126
			one := string([]byte{byte(i)})
			check(impl.Frame{Type: kind, Text: one}, allowed)
			check(impl.Frame{Type: kind, Text: one + "ab"}, allowed)
			check(impl.Frame{Type: kind, Text: "a" + one + "b"}, allowed)
			check(impl.Frame{Type: kind, Text: "ab" + one}, allowed)
			check(impl.Frame{Type: kind, Text: ofSize(1999) + one}, allowed)
			check(impl.Frame{Type: kind, Text: one + ofSize(1999)}, allowed)
			check(impl.Frame{Type: kind, Text: ofSize(1000) + one + ofSize(999)}, allowed)
			check(impl.Frame{Type: kind, Text: ofSize(2000) + one}, false)
		}
	}
	for name, f := range invalidFrames() {
		if impl.FrameValid(f) || slowFrameValid(f) {
			t.Errorf("%s: FrameValid = %v", name, impl.FrameValid(f))
		}
	}
}

func TestEncodeFrame(t *testing.T) {
	for _, c := range []struct {
		frame impl.Frame
		want  []byte
	}{
		{impl.Frame{Type: impl.FrameQuery, Text: "p"}, []byte{0, 2, 2, 112}},
		{impl.Frame{Type: impl.FrameLoad}, []byte{0, 1, 1}},
		{impl.Frame{Type: impl.FrameEnd}, []byte{0, 1, 7}},
		{impl.Frame{Type: impl.FrameLoad, Text: "p(1).\n"}, []byte{0, 7, 1, 112, 40, 49, 41, 46, 10}},
		{impl.Frame{Type: impl.FrameAnswer, Text: " ~"}, []byte{0, 3, 6, 32, 126}},
	} {
		if got := impl.EncodeFrame(c.frame); !bytes.Equal(got, c.want) {
			t.Errorf("EncodeFrame(%v) = %v, not %v", c.frame, got, c.want)
		}
	}
	lengths := map[int][2]byte{0: {0, 1}, 1: {0, 2}, 2: {0, 3}, 253: {0, 254}, 254: {0, 255}, 255: {1, 0}, 256: {1, 1}, 257: {1, 2}, 510: {1, 255}, 511: {2, 0}, 1999: {7, 208}, 2000: {7, 209}}
	for size, length := range lengths {
		for kind := 1; kind <= 7; kind++ {
			text := ofSize(size)
			got := impl.EncodeFrame(impl.Frame{Type: kind, Text: text})
			if len(got) != size+3 || got[0] != length[0] || got[1] != length[1] || int(got[2]) != kind {
				t.Fatalf("EncodeFrame of the type %d and %d bytes = %d bytes %v", kind, size, len(got), someBytes(got))
			}
			for i := range size {
				if got[3+i] != text[i] {
					t.Fatalf("EncodeFrame of %d bytes has %d, not %d, as its byte %d", size, got[3+i], text[i], 3+i)
				}
			}
		}
	}
	for name, f := range invalidFrames() {
		if got := impl.EncodeFrame(f); len(got) > 0 {
			t.Errorf("%s: EncodeFrame = %v", name, someBytes(got))
		}
	}
}

// someFrames returns frames of several types and sizes.
func someFrames() []impl.Frame {
	return []impl.Frame{{Type: impl.FrameLoad, Text: "p(1).\np(2).\n"}, {Type: impl.FrameQuery, Text: "p(A)"}, {Type: impl.FrameClose}, {Type: impl.FrameOk}, {Type: impl.FrameAnswer, Text: ofSize(impl.MaxPayload)}, {Type: impl.FrameError, Text: ofSize(300)}, {Type: impl.FrameEnd, Text: "0"}, {Type: impl.FrameEnd}}
}

// slowEncodedAll returns the bytes of frames, whether they are valid or not.
func slowEncodedAll(list []impl.Frame) []byte {
	var b []byte
	for _, f := range list {
		b = append(b, slowEncoded(byte(f.Type), f.Text)...)
	}
	return b
}

func TestEncodeAll(t *testing.T) {
	for _, list := range [][]impl.Frame{nil, {}} {
		if got := impl.EncodeAll(list); len(got) > 0 {
			t.Errorf("EncodeAll of no frames = %v", got)
		}
	}
	many := slices.Repeat(someFrames(), 40)
	for n := range 50 {
		for _, list := range [][]impl.Frame{many[:n], many[n:]} {
			if got, want := impl.EncodeAll(list), slowEncodedAll(list); !bytes.Equal(got, want) {
				t.Errorf("EncodeAll of %d frames = %d bytes %v, not %d", len(list), len(got), someBytes(got), len(want))
			}
		}
	}
	for _, f := range someFrames() {
		one, list := impl.EncodeFrame(f), impl.EncodeAll([]impl.Frame{f})
		if !bytes.Equal(one, list) || len(one) != len(f.Text)+3 {
			t.Errorf("EncodeAll of one frame = %v, and EncodeFrame = %v", someBytes(list), someBytes(one))
		}
	}
}

// TestEncodeAllRefuses has a list with one frame that is not valid, at each place.
func TestEncodeAllRefuses(t *testing.T) {
	list := someFrames()
	for name, f := range invalidFrames() {
		for i := range len(list) + 1 {
			if got := impl.EncodeAll(slices.Insert(slices.Clone(list), i, f)); len(got) > 0 {
				t.Fatalf("%s at %d: EncodeAll = %d bytes %v", name, i, len(got), someBytes(got))
			}
		}
		if got := impl.EncodeAll([]impl.Frame{f}); len(got) > 0 {
			t.Errorf("%s: EncodeAll = %v", name, someBytes(got))
		}
	}
}

func TestDecodeAll(t *testing.T) {
	for _, b := range [][]byte{nil, {}} {
		if list, ok := impl.DecodeAll(b); !ok || len(list) > 0 {
			t.Errorf("DecodeAll of no bytes = %v, %v", list, ok)
		}
	}
	for _, c := range []struct {
		b    []byte
		want []impl.Frame
	}{
		{[]byte{0, 2, 2, 112}, []impl.Frame{{Type: impl.FrameQuery, Text: "p"}}},
		{[]byte{0, 1, 7}, []impl.Frame{{Type: impl.FrameEnd}}},
		{[]byte{0, 1, 4, 0, 1, 4}, []impl.Frame{{Type: impl.FrameOk}, {Type: impl.FrameOk}}},
		{[]byte{0, 3, 6, 10, 126, 0, 1, 3, 0, 2, 1, 32}, []impl.Frame{{Type: impl.FrameAnswer, Text: "\n~"}, {Type: impl.FrameClose}, {Type: impl.FrameLoad, Text: " "}}},
		{slowEncoded(5, ofSize(255)), []impl.Frame{{Type: impl.FrameError, Text: ofSize(255)}}},
		{slowEncoded(5, ofSize(2000)), []impl.Frame{{Type: impl.FrameError, Text: ofSize(2000)}}},
	} {
		if got, ok := impl.DecodeAll(c.b); !ok || !slices.Equal(got, c.want) {
			t.Errorf("DecodeAll(%v) = %v, %v, not %v", someBytes(c.b), got, ok, c.want)
		}
	}
}

// brokenBytes returns bytes that break a fresh decoder, by what is wrong.
func brokenBytes() map[string][]byte {
	broken := map[string][]byte{
		"a length of 0":                 {0, 0},
		"a length of 0 before others":   {0, 0, 1, 2, 112},
		"a length of 2002":              {7, 210},
		"a length of 2002 with a frame": append([]byte{7, 210, 1}, ofSize(2001)...),
		"a length of 2048":              {8, 0},
		"a length of 2049":              {8, 1, 1},
		"a length of 65535":             {255, 255},
		"a length of 65535 and a frame": append([]byte{255, 255, 1}, ofSize(65534)...),
		"a length of 2304":              {9, 0, 1, 1},
		"a length of 2048 and a frame":  append([]byte{8, 0, 1}, ofSize(2047)...),
		"a type of 0":                   {0, 1, 0},
		"a type of 8":                   {0, 1, 8},
		"a type of 255":                 {0, 1, 255},
		"a type of 0 with a text":       {0, 3, 0, 'p', 'q'},
		"a type of 9 with a text":       append([]byte{7, 209, 9}, ofSize(2000)...),
	}
	for _, b := range forbiddenBytes() {
		broken[fmt.Sprint("only a byte ", b)] = []byte{0, 2, 2, b}
		broken[fmt.Sprint("first a byte ", b)] = []byte{0, 4, 2, b, 'p', 'q'}
		broken[fmt.Sprint("then a byte ", b)] = []byte{0, 4, 2, 'p', b, 'q'}
		broken[fmt.Sprint("last a byte ", b)] = []byte{0, 4, 2, 'p', 'q', b}
		broken[fmt.Sprint("at last a byte ", b)] = append(append([]byte{7, 209, 2}, ofSize(1999)...), b)
	}
	return broken
}

func TestDecodeAllRefuses(t *testing.T) {
	before := impl.EncodeAll(someFrames())
	check := func(name string, b []byte) {
		t.Helper()
		for _, all := range [][]byte{b, append([]byte{0, 1, 4}, b...), slices.Concat(before, b), slices.Concat(b, before), slices.Concat(before, b, before)} {
			if list, ok := impl.DecodeAll(all); ok || len(list) > 0 {
				t.Errorf("%s: DecodeAll = %d frames, %v, for %d bytes", name, len(list), ok, len(all))
			}
		}
	}
	for name, b := range brokenBytes() {
		check(name, b)
	}
	// What ends in a frame that is not complete, even if it would not be valid.
	for name, b := range map[string][]byte{"a byte": {0}, "a byte of 7": {7}, "a byte that begins no length": {9}, "a length": {0, 1}, "a greater length": {7, 209}, "a type": {0, 2, 3}, "a type of 9": {0, 2, 9}, "a part of a text": {0, 4, 3, 'p', 'q'}, "a part of a wrong text": {0, 4, 3, 0, 1}, "all but the last byte": append([]byte{7, 209, 1}, ofSize(1999)...)} {
		for _, all := range [][]byte{b, append([]byte{0, 1, 4}, b...), slices.Concat(before, b)} {
			if list, ok := impl.DecodeAll(all); ok || len(list) > 0 {
				t.Errorf("%s: DecodeAll = %d frames, %v, for %d bytes", name, len(list), ok, len(all))
			}
		}
	}
	for i := range before {
		checkDecodeAll(t, before[:i])
	}
}

// text returns a text for a frame, mostly a short one.
func (s *source) text() string {
	b := make([]byte, []int{s.below(3), s.below(20), s.below(20), s.below(600), s.below(impl.MaxPayload + 1), 254 + s.below(4), impl.MaxPayload - s.below(2)}[s.below(7)])
	for i := range b {
		b[i] = allowedBytes[s.below(len(allowedBytes))]
	}
	return string(b)
}

// frames returns a list of valid frames.
func (s *source) frames(most int) []impl.Frame {
	list := make([]impl.Frame, s.below(most+1))
	for i := range list {
		list[i] = impl.Frame{Type: 1 + s.below(7), Text: s.text()}
	}
	return list
}

// TestFramesAreReadBack decodes the bytes of random frames.
func TestFramesAreReadBack(t *testing.T) {
	s := source{state: 1101}
	for range 5000 {
		list := s.frames(12)
		b := impl.EncodeAll(list)
		if !bytes.Equal(b, slowEncodedAll(list)) {
			t.Fatalf("EncodeAll = %d bytes %v for %d frames", len(b), someBytes(b), len(list))
		}
		if back, ok := impl.DecodeAll(b); !ok || !slices.Equal(back, list) {
			t.Fatalf("DecodeAll = %d frames, %v, not %d, for %d bytes", len(back), ok, len(list), len(b))
		}
	}
}

// someByte returns a byte that often belongs to the beginning of a frame.
func (s *source) someByte() byte {
	switch s.below(4) {
	case 0:
		return 0
	case 1:
		return byte(1 + s.below(8))
	case 2:
		return allowedBytes[s.below(len(allowedBytes))]
	}
	return byte(s.below(256))
}

// changed returns b with some of its bytes changed, removed or doubled.
func (s *source) changed(b []byte) []byte {
	b = slices.Clone(b)
	for range s.below(3) {
		if len(b) == 0 {
			break
		}
		// Most of the bytes that matter are near the beginning.
		at := s.below(min(len(b), []int{3, 40, len(b)}[s.below(3)]))
		switch s.below(4) {
		case 0:
			b = slices.Delete(b, at, at+1)
		case 1:
			b = slices.Insert(b, at, s.someByte())
		case 2:
			b[at] = s.someByte()
		case 3:
			b = b[:len(b)-s.below(min(len(b), 5))]
		}
	}
	return b
}

// TestBytesAreWrittenBack encodes the frames of random bytes.
func TestBytesAreWrittenBack(t *testing.T) {
	s := source{state: 1102}
	accepted, refused := 0, 0
	for n := range 30000 {
		var b []byte
		if n%3 == 0 {
			for range s.below(12) {
				b = append(b, s.someByte())
			}
		} else {
			b = s.changed(slowEncodedAll(s.frames(4)))
		}
		checkDecodeAll(t, b)
		list, ok := impl.DecodeAll(b)
		if !ok {
			refused++
			continue
		}
		if len(list) > 0 {
			accepted++
		}
		if back := impl.EncodeAll(list); !bytes.Equal(back, b) {
			t.Fatalf("EncodeAll = %v, not %v", someBytes(back), someBytes(b))
		}
	}
	if accepted < 5000 || refused < 5000 {
		t.Errorf("%d lists of bytes have frames, and %d are refused", accepted, refused)
	}
}
