package tests

import (
	"bytes"
	"slices"
	"strings"
	"testing"

	"loop.example/prologserver/impl"
)

// overwriteBytes changes all memory of b.
func overwriteBytes(b []byte) {
	b = b[:cap(b)]
	for i := range b {
		b[i] = 77
	}
}

// overwriteFrames changes all memory of frames.
func overwriteFrames(list []impl.Frame) {
	list = list[:cap(list)]
	for i := range list {
		list[i] = impl.Frame{Type: 77, Text: "M"}
	}
}

func TestEncodedFramesShareNoMemory(t *testing.T) {
	list := someFrames()
	want := slowEncodedAll(list)
	first, second := impl.EncodeAll(list), impl.EncodeAll(list)
	overwriteBytes(first)
	if !bytes.Equal(second, want) || !slices.Equal(list, someFrames()) {
		t.Error("EncodeAll returns memory of another result or of an argument")
	}
	for _, f := range list {
		one, again, three := impl.EncodeFrame(f), impl.EncodeFrame(f), impl.EncodeAll([]impl.Frame{f, f, f})
		overwriteBytes(one)
		overwriteBytes(three)
		if want := slowEncoded(byte(f.Type), f.Text); !bytes.Equal(again, want) {
			t.Error("EncodeFrame returns memory of another result")
		}
	}
	if !slices.Equal(list, someFrames()) {
		t.Error("EncodeFrame changes memory of an argument")
	}
}

func TestDecodedFramesShareNoMemory(t *testing.T) {
	list := someFrames()
	b := slowEncodedAll(list)
	first, _ := impl.DecodeAll(b)
	second, _ := impl.DecodeAll(b)
	overwriteFrames(first)
	if !bytes.Equal(b, slowEncodedAll(list)) || !slices.Equal(second, list) {
		t.Error("DecodeAll returns memory of another result or of an argument")
	}
	overwriteBytes(b)
	if !slices.Equal(second, list) {
		t.Error("DecodeAll returns memory of an argument")
	}
}

// shortAndLong returns the bytes of frames that are fed in one part, with a frame at the end that is not complete.
// Those that are long are more than a decoder can keep.
func shortAndLong() [][]byte {
	return [][]byte{{0}, {0, 9}, {0, 9, 2, 'p'}, {0, 2, 2, 'p', 0}, {0, 2, 2, 'p', 0, 9, 6, 'A', '='}, append(slowEncodedAll(someFrames()), 7, 209, 1, 'p'), append(slowEncodedAll(slices.Repeat(someFrames(), 3)), slowEncoded(5, ofSize(2000))[:2002]...)}
}

func TestDecodersShareNoMemory(t *testing.T) {
	for _, b := range shortAndLong() {
		want, frames := slowDecoded(slices.Clone(b))
		part := slices.Clone(b)
		first, firstFrames := impl.FeedDecoder(impl.Decoder{}, part)
		second, secondFrames := impl.FeedDecoder(impl.Decoder{}, part)
		again, againFrames := impl.FeedDecoder(second, nil)
		overwriteBytes(first.Rest)
		overwriteFrames(firstFrames)
		if !bytes.Equal(part, b) || !sameDecoder(second, want) || !slices.Equal(secondFrames, frames) || !sameDecoder(again, want) || len(againFrames) > 0 {
			t.Errorf("FeedDecoder returns memory of another result or of an argument for %d bytes", len(b))
		}
		overwriteBytes(part)
		overwriteBytes(again.Rest)
		if !sameDecoder(second, want) || !slices.Equal(secondFrames, frames) {
			t.Errorf("FeedDecoder returns memory of an argument for %d bytes", len(b))
		}
		overwriteBytes(second.Rest)
		if !slices.Equal(secondFrames, frames) {
			t.Errorf("FeedDecoder returns frames with memory of the decoder for %d bytes", len(b))
		}
	}
}

// TestDecodersThatAreReturnedShareNoMemory has decoders to which nothing is added: because they are not valid, or
// because there are no bytes.
func TestDecodersThatAreReturnedShareNoMemory(t *testing.T) {
	decoders := invalidDecoders()
	decoders["a byte"] = impl.Decoder{Rest: []byte{0}}
	decoders["a part"] = impl.Decoder{Rest: []byte{0, 9, 2, 'p'}}
	decoders["a long part"] = impl.Decoder{Rest: slowEncoded(2, ofSize(2000))[:2002]}
	decoders["a broken decoder with memory"] = impl.Decoder{Rest: make([]byte, 0, 50), Broken: true}
	decoders["a decoder with memory"] = impl.Decoder{Rest: make([]byte, 0, 50)}
	for name, d := range decoders {
		rest := slices.Clone(d.Rest)
		first, _ := impl.FeedDecoder(d, nil)
		second, _ := impl.FeedDecoder(d, []byte{})
		overwriteBytes(first.Rest)
		if !bytes.Equal(d.Rest, rest) || !bytes.Equal(second.Rest, rest) {
			t.Errorf("%s: FeedDecoder returns memory of an argument or of another result", name)
		}
		if behind := d.Rest[len(d.Rest):cap(d.Rest)]; bytes.Contains(behind, []byte{77}) {
			t.Errorf("%s: FeedDecoder returns memory behind that of an argument", name)
		}
		overwriteBytes(d.Rest)
		if !bytes.Equal(second.Rest, rest) {
			t.Errorf("%s: FeedDecoder returns memory of an argument", name)
		}
	}
}

// TestOneDecoderIsFedTwice has a Rest with memory behind it, which both parts could be put into.
func TestOneDecoderIsFedTwice(t *testing.T) {
	memory := append([]byte{0, 5, 6, 'A'}, "0123456789"...)
	d := impl.Decoder{Rest: memory[:4]}
	first, none := impl.FeedDecoder(d, []byte("=1"))
	second, frames := impl.FeedDecoder(d, []byte("=2;B"))
	third, _ := impl.FeedDecoder(first, []byte{';'})
	fourth, last := impl.FeedDecoder(first, []byte{'.', 0})
	if string(memory) != "\x00\x05\x06A0123456789" || len(none) > 0 {
		t.Errorf("FeedDecoder changes memory of an argument: %v, or returns %v", memory, none)
	}
	if string(first.Rest) != "\x00\x05\x06A=1" || string(second.Rest) != "B" {
		t.Errorf("FeedDecoder = %v and %v", first, second)
	}
	if len(frames) != 1 || frames[0] != (impl.Frame{Type: impl.FrameAnswer, Text: "A=2;"}) {
		t.Errorf("FeedDecoder = %v", frames)
	}
	if len(third.Rest) != 0 || !bytes.Equal(fourth.Rest, []byte{0}) || len(last) != 1 || last[0].Text != "A=1." {
		t.Errorf("FeedDecoder = %v, %v, %v", third, fourth, last)
	}
}

// TestFramesChangeNothing has arguments with memory beyond their length.
func TestFramesChangeNothing(t *testing.T) {
	whole := slices.Concat(slowEncodedAll(someFrames()), slowEncodedAll(someFrames()))
	for _, cut := range []int{0, 1, 2, 3, 4, 20, 40, 2000, 2003, 2004, 2100, 2400, len(whole)} {
		b, rest := slices.Clone(whole), append([]byte{7, 209, 1, 'p'}, "behind it"...)
		impl.DecodeAll(b[:cut])
		impl.FeedDecoder(impl.Decoder{}, b[:cut])
		impl.FeedDecoder(impl.Decoder{Rest: rest[:4]}, b[:cut])
		impl.FeedDecoder(impl.Decoder{Rest: rest[:4], Broken: true}, b[:cut])
		impl.DecoderValid(impl.Decoder{Rest: rest[:4]})
		impl.DecoderValid(impl.Decoder{Rest: b[:cut]})
		impl.FeedDecoder(impl.Decoder{Rest: b[:cut]}, rest[:4])
		if !bytes.Equal(b, whole) || string(rest) != "\x07\xd1\x01pbehind it" {
			t.Errorf("an argument of %d bytes was changed", cut)
		}
	}
	frames := append(someFrames(), impl.Frame{Type: 9, Text: strings.Repeat("x", 3000)}, impl.Frame{Type: 1})
	before := slices.Clone(frames)
	for n := range len(frames) + 1 {
		impl.EncodeAll(frames[:n])
	}
	if !slices.Equal(frames, before) {
		t.Errorf("EncodeAll changes an argument: %v", frames)
	}
}
