package tests

import (
	"bytes"
	"slices"
	"strings"
	"testing"

	"loop.example/prologserver/impl"
)

// allowedBytes has all bytes that a text of a frame can have.
const allowedBytes = "\n !\"#$%&'()*+,-./0123456789:;<=>?@ABCDEFGHIJKLMNOPQRSTUVWXYZ[\\]^_`abcdefghijklmnopqrstuvwxyz{|}~"

// slowFrameValid reports whether a frame is valid, as the document says it.
func slowFrameValid(f impl.Frame) bool {
	for i := range len(f.Text) {
		if strings.IndexByte(allowedBytes, f.Text[i]) < 0 {
			return false
		}
	}
	return slices.Contains([]int{1, 2, 3, 4, 5, 6, 7}, f.Type) && len(f.Text) <= 2000
}

// slowEncoded returns the bytes of a frame with this text, whether it is valid or not.
func slowEncoded(kind byte, text string) []byte {
	length := len(text) + 1
	return slices.Concat([]byte{byte(length / 256), byte(length % 256), kind}, []byte(text))
}

// slowDecoded returns the decoder and the frames behind all bytes that a fresh decoder was given, as the document says it.
// Rest is a part of b.
func slowDecoded(b []byte) (impl.Decoder, []impl.Frame) {
	var frames []impl.Frame
	for len(b) >= 2 {
		length := int(b[0])*256 + int(b[1])
		if length == 0 || length > 2001 {
			return impl.Decoder{Broken: true}, frames
		}
		if len(b) < 2+length {
			break
		}
		f := impl.Frame{Type: int(b[2]), Text: string(b[3 : 2+length])}
		if !slowFrameValid(f) {
			return impl.Decoder{Broken: true}, frames
		}
		frames = append(frames, f)
		b = b[2+length:]
	}
	return impl.Decoder{Rest: b}, frames
}

// slowDecoderValid reports whether a decoder is valid: whether there are bytes that a fresh decoder can be given to become it.
func slowDecoderValid(d impl.Decoder) bool {
	if d.Broken {
		return len(d.Rest) == 0
	}
	same, frames := slowDecoded(d.Rest)
	return !same.Broken && len(frames) == 0
}

func sameDecoder(a impl.Decoder, b impl.Decoder) bool {
	return a.Broken == b.Broken && bytes.Equal(a.Rest, b.Rest)
}

// someBytes returns the first bytes of many.
func someBytes(b []byte) []byte {
	return b[:min(len(b), 40)]
}

// checkDecodeAll compares DecodeAll with slowDecoded.
func checkDecodeAll(t *testing.T, b []byte) {
	t.Helper()
	d, want := slowDecoded(b)
	wantOk := !d.Broken && len(d.Rest) == 0
	if !wantOk {
		want = nil
	}
	if got, ok := impl.DecodeAll(b); ok != wantOk || !slices.Equal(got, want) {
		t.Fatalf("DecodeAll = %d frames, %v, not %d, %v, for %d bytes %v", len(got), ok, len(want), wantOk, len(b), someBytes(b))
	}
}

// checkFeed gives bytes to a decoder, and compares the decoder and the frames behind them with those for all bytes at once.
// It returns the decoder.
func checkFeed(t *testing.T, d impl.Decoder, before []byte, part []byte) impl.Decoder {
	t.Helper()
	all := slices.Concat(before, part)
	want, wantFrames := slowDecoded(all)
	_, old := slowDecoded(before)
	wantFrames = wantFrames[len(old):]
	got, frames := impl.FeedDecoder(d, part)
	if !sameDecoder(got, want) {
		t.Fatalf("FeedDecoder makes a decoder with %d bytes %v, %v, not %d, %v, of %d bytes %v behind %d", len(got.Rest), someBytes(got.Rest), got.Broken, len(want.Rest), want.Broken, len(part), someBytes(part), len(before))
	}
	if !slices.Equal(frames, wantFrames) {
		t.Fatalf("FeedDecoder returns %d frames, not %d, for %d bytes %v behind %d", len(frames), len(wantFrames), len(part), someBytes(part), len(before))
	}
	if !impl.DecoderValid(got) {
		t.Fatalf("DecoderValid = false for a decoder with %d bytes %v, %v", len(got.Rest), someBytes(got.Rest), got.Broken)
	}
	return got
}

// checkParts gives parts to a fresh decoder, one after the other, and compares it and its frames with those for
// all bytes so far at once.
func checkParts(t *testing.T, parts ...[]byte) {
	t.Helper()
	var d impl.Decoder
	var before []byte
	for _, part := range parts {
		d = checkFeed(t, d, before, part)
		before = append(before, part...)
	}
	checkDecodeAll(t, before)
}

// checkSplits gives bytes to a fresh decoder as a whole, byte by byte, and in all ways of two and of three parts.
func checkSplits(t *testing.T, b []byte) {
	t.Helper()
	checkParts(t, b)
	checkParts(t, slices.Collect(slices.Chunk(b, 1))...)
	for i := range len(b) + 1 {
		checkParts(t, b[:i], b[i:])
		for j := i; j <= len(b); j++ {
			checkParts(t, b[:i], b[i:j], b[j:])
		}
	}
}
