package sendbuf_test

import (
	"bytes"
	"math"
	"slices"
	"strings"
	"testing"

	"braid/api"
	"braid/sendbuf"
)

// data is a chunk with bytes that is not held.
func data(off uint64, n int, on ...int) api.Chunk { return api.Chunk{Off: off, Len: n, On: on} }

func fin(off uint64, on ...int) api.Chunk { return api.Chunk{Off: off, Fin: true, On: on} }

func wantChunks(t *testing.T, b *sendbuf.Buffer, want ...api.Chunk) {
	t.Helper()
	if got := b.Chunks(); !slices.EqualFunc(got, want, sameChunk) {
		t.Errorf("Chunks: %+v, want %+v", got, want)
	}
}

func wantWant(t *testing.T, b *sendbuf.Buffer, want api.Chunk) {
	t.Helper()
	if got, ok := b.Want(); !ok || !sameChunk(got, want) {
		t.Errorf("Want: %+v %v, want %+v", got, ok, want)
	}
}

func wantNext(t *testing.T, b *sendbuf.Buffer, path int, want api.Chunk) {
	t.Helper()
	if got, ok := b.Next(path); !ok || !sameChunk(got, want) {
		t.Errorf("Next(%d): %+v %v, want %+v", path, got, ok, want)
	}
}

func wantNone(t *testing.T, b *sendbuf.Buffer) {
	t.Helper()
	if got, ok := b.Want(); ok || !sameChunk(got, api.Chunk{}) {
		t.Errorf("Want: %+v %v, want none", got, ok)
	}
}

func noNext(t *testing.T, b *sendbuf.Buffer, path int) {
	t.Helper()
	if got, ok := b.Next(path); ok || !sameChunk(got, api.Chunk{}) {
		t.Errorf("Next(%d): %+v %v, want none", path, got, ok)
	}
}

// all fails unless each of these is true.
func all(t *testing.T, what string, l ...bool) {
	t.Helper()
	for i, ok := range l {
		if !ok {
			t.Errorf("%s: number %d is not so", what, i)
		}
	}
}

// numbers holds Acked, High, End, Edge and Free against these.
func numbers(t *testing.T, b *sendbuf.Buffer, acked, high, end, edge uint64, free int) {
	t.Helper()
	if b.Acked() != acked || b.High() != high || b.End() != end || b.Edge() != edge || b.Free() != free {
		t.Errorf("Acked %d High %d End %d Edge %d Free %d, want %d %d %d %d %d",
			b.Acked(), b.High(), b.End(), b.Edge(), b.Free(), acked, high, end, edge, free)
	}
}

// written is a Buffer with one Write behind it.
func written(t *testing.T, base uint64, room, mss int, edge uint64, text string) *sendbuf.Buffer {
	t.Helper()
	b := sendbuf.New(base, room, mss, edge)
	if n := b.Write([]byte(text)); n != len(text) {
		t.Fatalf("Write(%q): %d", text, n)
	}
	return b
}

// The chapter's examples 1 to 4.
func TestExamples(t *testing.T) {
	b := sendbuf.New(100, 10, 4, 106)
	all(t, "1", b.Write([]byte("abcdefg")) == 7)
	wantChunks(t, b, data(100, 4), data(104, 3))
	numbers(t, b, 100, 100, 107, 106, 3)
	all(t, "1", b.Write([]byte("xyzw")) == 3)
	wantChunks(t, b, data(100, 4), data(104, 3), data(107, 3))
	all(t, "1", b.Free() == 0, b.Write([]byte("q")) == 0)

	wantWant(t, b, data(100, 4))
	all(t, "2", b.Sent(0, 100))
	wantNone(t, b)
	wantNext(t, b, 1, data(100, 4, 0))
	noNext(t, b, 0)
	all(t, "2", b.May(1, 100, 4), !b.May(1, 100, 3), !b.May(0, 100, 4), !b.May(8, 100, 4), b.High() == 104)

	all(t, "3", !b.Ack(105, 200), b.Edge() == 106, b.Ack(104, 110))
	wantChunks(t, b, data(104, 3), data(107, 3))
	numbers(t, b, 104, 104, 110, 110, 4)
	wantWant(t, b, data(104, 3))
	all(t, "3", b.Sent(1, 104), b.Sent(0, 104), b.Lost(1, 104), b.Held(0, 104))
	wantWant(t, b, data(107, 3))

	all(t, "4", b.Close(), !b.Close())
	held := data(104, 3)
	held.Held = true
	wantChunks(t, b, held, data(107, 3), fin(110))
	wantWant(t, b, data(107, 3))
	all(t, "4", b.Sent(0, 107))
	wantWant(t, b, fin(110))
	all(t, "4", b.Sent(0, 110), b.High() == 110, b.Ack(110, 0), b.Edge() == 110, !b.Done(), b.Ack(111, 0), b.Done())
	wantChunks(t, b)
	all(t, "4", b.Free() == 10, b.Write([]byte("x")) == 0)
}

// The chapter's examples 5 and 6.
func TestExamplesOfTheEnd(t *testing.T) {
	b := sendbuf.New(1<<62, 5, 5, 1<<63)
	all(t, "5", b.Write([]byte("x")) == 0, b.Close())
	wantChunks(t, b, fin(1<<62))
	all(t, "5", sendbuf.New(1<<62-1, 5, 5, 1<<63).Write([]byte("xy")) == 1)

	b = sendbuf.New(0, 10, 4, 0)
	all(t, "6", b.Write([]byte("")) == 0, len(b.Chunks()) == 0, b.Close())
	wantWant(t, b, fin(0))
	all(t, "6", b.Sent(3, 0), b.High() == 0, b.Ack(1, 0), b.Done())
}

// P9.1: what New is given counts as the nearest that may be.
func TestNew(t *testing.T) {
	for _, c := range []struct{ base, want uint64 }{
		{0, 0}, {1, 1}, {1<<62 - 1, 1<<62 - 1}, {1 << 62, 1 << 62}, {1<<62 + 1, 1 << 62}, {1 << 63, 1 << 62}, {math.MaxUint64, 1 << 62},
	} {
		b := sendbuf.New(c.base, 10, 4, 3)
		numbers(t, b, c.want, c.want, c.want, 3, 10)
		wantChunks(t, b)
		wantNone(t, b)
		all(t, "new", !b.Closed(), !b.Done())
	}
	for _, c := range []struct{ room, want int }{
		{math.MinInt, 1}, {-1, 1}, {0, 1}, {1, 1}, {2, 2}, {65535, 65535}, {65536, 65536}, {65537, 65536}, {math.MaxInt, 65536},
	} {
		b := sendbuf.New(5, c.room, 1024, 0)
		all(t, "room", b.Free() == c.want, b.Write(make([]byte, 70000)) == c.want, b.Free() == 0, b.End() == 5+uint64(c.want))
	}
	for _, c := range []struct{ mss, want int }{
		{math.MinInt, 1}, {-1, 1}, {0, 1}, {1, 1}, {2, 2}, {1023, 1023}, {1024, 1024}, {1025, 1024}, {math.MaxInt, 1024},
	} {
		b := sendbuf.New(5, 2048, c.mss, 0)
		b.Write(make([]byte, 2048))
		all(t, "mss", b.Chunks()[0].Len == c.want, b.Chunks()[1].Off == 5+uint64(c.want))
	}
	for _, edge := range []uint64{0, 1, 1 << 63, math.MaxUint64} {
		all(t, "edge", sendbuf.New(9, 1, 1, edge).Edge() == edge)
	}
}

// P9.2: each Write is cut by itself; of nothing, of just what is free, and of more.
func TestWrite(t *testing.T) {
	b := sendbuf.New(10, 12, 4, 0)
	all(t, "nothing", b.Write(nil) == 0, b.Write([]byte{}) == 0, len(b.Chunks()) == 0)
	all(t, "by one", b.Write([]byte("a")) == 1, b.Write([]byte("bc")) == 2)
	wantChunks(t, b, data(10, 1), data(11, 2))
	all(t, "just mss", b.Write([]byte("defg")) == 4)
	wantChunks(t, b, data(10, 1), data(11, 2), data(13, 4))
	all(t, "just what is free", b.Free() == 5, b.Write([]byte("hijkl")) == 5)
	wantChunks(t, b, data(10, 1), data(11, 2), data(13, 4), data(17, 4), data(21, 1))
	all(t, "full", b.Write([]byte("m")) == 0, b.Write(nil) == 0, b.End() == 22, len(b.Chunks()) == 5)

	b = sendbuf.New(10, 6, 4, 0)
	all(t, "more than is free", b.Write([]byte("abcdefgh")) == 6, string(b.Bytes(10)) == "abcd", string(b.Bytes(14)) == "ef")
	wantChunks(t, b, data(10, 4), data(14, 2))
}

// P9.2: a Write reaches MaxOff and no further.
func TestWriteToTheLastOffset(t *testing.T) {
	b := sendbuf.New(1<<62-7, 100, 3, 1<<63)
	all(t, "up to it", b.Write([]byte("abcdefg")) == 7, b.End() == 1<<62, b.Free() == 93, b.Write([]byte("h")) == 0)
	wantChunks(t, b, data(1<<62-7, 3), data(1<<62-4, 3), data(1<<62-1, 1))
	b.Close()
	for _, c := range b.Chunks() {
		all(t, "out", b.Sent(0, c.Off))
	}
	all(t, "done", b.High() == 1<<62, !b.Ack(1<<62+2, 0), b.Ack(1<<62+1, 0), b.Done(), b.Free() == 100)

	b = sendbuf.New(1<<62-7, 100, 3, 1<<63)
	all(t, "over it", b.Write([]byte("abcdefghi")) == 7, b.End() == 1<<62)
	b = sendbuf.New(1<<62-7, 6, 3, 1<<63)
	all(t, "short of it", b.Write([]byte("abcdefghi")) == 6, b.End() == 1<<62-1)
}

// P9.2 and P9.3: a closed stream takes nothing, and is closed once.
func TestClose(t *testing.T) {
	b := written(t, 3, 10, 4, 0, "ab")
	all(t, "open", !b.Closed(), len(b.Chunks()) == 1, b.Close(), b.Closed())
	wantChunks(t, b, data(3, 2), fin(5))
	all(t, "closed", b.Write([]byte("c")) == 0, b.Write(nil) == 0, !b.Close(), b.Closed())
	wantChunks(t, b, data(3, 2), fin(5))
	numbers(t, b, 3, 3, 5, 0, 8)
}

// P9.4: up to where an Ack is heard.
func TestAckAboveHigh(t *testing.T) {
	b := written(t, 10, 20, 4, 30, "abcdefgh")
	all(t, "nothing out", !b.Ack(11, 99), b.Edge() == 30, !b.Ack(math.MaxUint64, 99), b.Edge() == 30, !b.Ack(10, 30))
	b.Sent(0, 10)
	all(t, "at High + 1", !b.Ack(15, 99), b.Acked() == 10, b.Edge() == 30)
	all(t, "at High", b.Ack(14, 0), b.Acked() == 14, b.Edge() == 30)
	b.Sent(0, 14)
	b.Close()
	all(t, "the end not out", !b.Ack(19, 99), b.Acked() == 14, b.Edge() == 30)
	b.Sent(0, 18)
	all(t, "the end out", !b.Ack(20, 99), b.Edge() == 30, b.Ack(19, 0), b.Acked() == 19, b.Done())
	all(t, "behind it", !b.Ack(20, 99), b.Edge() == 30, b.Ack(19, 31), b.Edge() == 31, !b.Ack(19, 31))
	numbers(t, b, 19, 18, 18, 31, 20)
}

// P9.4: the end that was lost has gone out for all that, and one that is held too.
func TestAckOfAnEndThatWasLost(t *testing.T) {
	b := sendbuf.New(7, 1, 1, 0)
	b.Close()
	all(t, "lost", !b.Ack(8, 0), b.Sent(2, 7), b.Lost(2, 7), b.Ack(8, 0), b.Done())
	b = sendbuf.New(7, 1, 1, 0)
	b.Close()
	all(t, "held", b.Sent(2, 7), b.Held(2, 7), !b.Done(), len(b.Chunks()) == 1, b.Ack(8, 0), b.Done(), len(b.Chunks()) == 0)
}

// P9.4: chunks go when Acked is behind their last byte, not before; neither number falls.
func TestAckWithinAChunk(t *testing.T) {
	b := written(t, 10, 20, 4, 30, "abcdefgh")
	b.Sent(0, 10)
	b.Sent(0, 14)
	all(t, "within", b.Ack(13, 0))
	wantChunks(t, b, data(10, 4, 0), data(14, 4, 0))
	numbers(t, b, 13, 18, 18, 30, 15)
	all(t, "its bytes stay", string(b.Bytes(10)) == "abcd", b.Lost(0, 10), b.May(0, 10, 4))
	all(t, "at its end", b.Ack(14, 0))
	wantChunks(t, b, data(14, 4, 0))
	all(t, "no more", b.Bytes(10) == nil, !b.May(0, 10, 4), !b.Sent(0, 10), !b.Lost(0, 10), !b.Held(0, 10))
	all(t, "not news", !b.Ack(14, 30), !b.Ack(13, 29), !b.Ack(0, 0))
	numbers(t, b, 14, 18, 18, 30, 16)
	all(t, "one of two", b.Ack(0, 31), b.Edge() == 31, b.Acked() == 14, b.Ack(15, 0), b.Edge() == 31, b.Acked() == 15)
	all(t, "both", b.Ack(18, 40), b.Acked() == 18, b.Edge() == 40)
	wantChunks(t, b)
	all(t, "the greatest edge", b.Ack(18, math.MaxUint64), b.Edge() == math.MaxUint64, !b.Ack(18, math.MaxUint64))
}

// P9.4: v at the end lets its chunk stay; behind it, it is no more.
func TestAckOfTheEnd(t *testing.T) {
	b := written(t, 10, 20, 4, 30, "abc")
	b.Close()
	b.Sent(0, 10)
	b.Sent(0, 13)
	all(t, "at the end", b.Ack(13, 0), !b.Done(), b.Free() == 20)
	wantChunks(t, b, fin(13, 0))
	all(t, "behind it", b.Ack(14, 0), b.Done(), b.Free() == 20, b.Closed(), b.Write([]byte("x")) == 0, !b.Close())
	wantChunks(t, b)
	wantNone(t, b)
	noNext(t, b, 1)
	all(t, "no more", !b.May(1, 13, 0), !b.Sent(1, 13), !b.Lost(0, 13), !b.Held(0, 13), b.End() == 13)
}

// P9.5: the edge within a chunk, at its last byte and behind it.
func TestEdge(t *testing.T) {
	for _, c := range []struct {
		edge uint64
		out  int
	}{{0, 0}, {10, 0}, {11, 0}, {13, 0}, {14, 1}, {15, 1}, {16, 1}, {17, 2}, {18, 2}, {math.MaxUint64, 2}} {
		b := written(t, 10, 20, 4, c.edge, "abcdefg")
		all(t, "may", b.May(0, 10, 4) == (c.out > 0), b.May(0, 14, 3) == (c.out > 1))
		all(t, "sent", b.Sent(0, 14) == (c.out > 1), b.Sent(0, 10) == (c.out > 0))
		wantNone(t, b)
		noNext(t, b, 0)
		if c.out == 0 {
			all(t, "High stays", b.High() == 10)
			noNext(t, b, 1)
		}
	}
}

// P9.4 and P9.5: an edge that falls bars nothing.
func TestEdgeThatFalls(t *testing.T) {
	b := written(t, 10, 20, 4, 18, "abcdefgh")
	all(t, "not news", !b.Ack(10, 10), b.Edge() == 18, b.May(0, 14, 4))
	wantWant(t, b, data(10, 4))
	b.Sent(0, 10)
	wantWant(t, b, data(14, 4))
}

// P9.5: the end waits for each chunk with bytes, until it has gone out once or is no more; for no edge.
func TestTheEndWaits(t *testing.T) {
	b := written(t, 10, 20, 4, 14, "abcdefgh")
	b.Close()
	all(t, "none out", !b.May(7, 18, 0), !b.Sent(7, 18))
	b.Sent(0, 10)
	wantNone(t, b)
	all(t, "one out", !b.May(7, 18, 0), !b.Sent(7, 18), b.High() == 14)
	b.Ack(10, 18)
	wantWant(t, b, data(14, 4))
	all(t, "the edge alone", !b.May(7, 18, 0), !b.Sent(7, 18))
	b.Sent(0, 14)
	wantWant(t, b, fin(18))
	wantNext(t, b, 0, fin(18))
	wantNext(t, b, 7, data(10, 4, 0))
	b.Lost(0, 10)
	wantWant(t, b, data(10, 4))
	all(t, "one that was lost has gone out once", b.May(7, 18, 0), !b.May(7, 18, 1), b.Sent(7, 18), b.Sent(7, 10), b.Sent(7, 14))
	noNext(t, b, 7)
}

// P9.5: a chunk that never went out, and is no more as one behind it was acknowledged, does not hold the end up.
func TestTheEndBehindAChunkThatNeverWentOut(t *testing.T) {
	b := written(t, 10, 20, 4, 30, "abcdefgh")
	b.Close()
	all(t, "the second alone", b.Sent(0, 14), b.High() == 18, !b.May(0, 18, 0), b.Ack(13, 0), !b.May(0, 18, 0))
	wantWant(t, b, data(10, 4))
	all(t, "the first no more", b.Ack(14, 0), b.May(0, 18, 0))
	wantWant(t, b, fin(18))
	all(t, "v of the end that is not out", !b.Ack(19, 0), b.Sent(0, 18), b.Ack(19, 0), b.Done())
}

// P9.5: the end of a stream without bytes may go out ahead of any edge and behind it.
func TestTheEndAlone(t *testing.T) {
	for _, edge := range []uint64{0, 9, 10, 11, math.MaxUint64} {
		b := sendbuf.New(10, 5, 5, edge)
		noNext(t, b, 0)
		all(t, "open", !b.May(0, 10, 0), !b.Sent(0, 10), b.Close())
		wantWant(t, b, fin(10))
		wantNext(t, b, 7, fin(10))
		all(t, "closed", b.May(0, 10, 0), !b.May(0, 10, 1), b.Sent(0, 10), b.High() == 10, b.Bytes(10) == nil)
	}
}

// P9.5: Want is under way nowhere, Next not on its path; neither is held.
func TestWantAndNext(t *testing.T) {
	b := written(t, 0, 20, 2, 20, "aabbcc")
	wantNext(t, b, 0, data(0, 2))
	b.Sent(0, 0)
	b.Sent(1, 2)
	wantWant(t, b, data(4, 2))
	wantNext(t, b, 0, data(2, 2, 1))
	wantNext(t, b, 1, data(0, 2, 0))
	wantNext(t, b, 7, data(0, 2, 0))
	b.Sent(1, 0)
	wantNext(t, b, 1, data(4, 2))
	wantNext(t, b, 7, data(0, 2, 0, 1))
	b.Held(0, 0)
	wantWant(t, b, data(4, 2))
	wantNext(t, b, 0, data(2, 2, 1))
	wantNext(t, b, 7, data(2, 2, 1))
	b.Lost(1, 0)
	b.Lost(1, 2)
	wantWant(t, b, data(2, 2))
	wantNext(t, b, 1, data(2, 2))
}

// P9.5: only a chunk's own offset and length are one.
func TestMay(t *testing.T) {
	b := written(t, 10, 20, 4, 30, "abcdefg")
	all(t, "just that", b.May(0, 10, 4), b.May(7, 10, 4), b.May(0, 14, 3))
	for _, n := range []int{math.MinInt, -1, 0, 1, 3, 5, 7, 1 << 32, 1<<32 + 4, math.MaxInt} {
		all(t, "another length", !b.May(0, 10, n))
	}
	for _, off := range []uint64{0, 9, 11, 12, 13, 15, 16, 18, 10 + 1<<32, math.MaxUint64} {
		all(t, "no chunk", !b.May(0, off, 4), !b.May(0, off, 3), !b.Sent(0, off), !b.Lost(0, off), !b.Held(0, off), b.Bytes(off) == nil)
	}
	all(t, "no end yet", !b.May(0, 17, 0), !b.Sent(0, 17), b.Bytes(17) == nil)
	numbers(t, b, 10, 10, 17, 30, 13)
}

// P9.5 and P9.6: a number that is no path gets nothing and changes nothing.
func TestPaths(t *testing.T) {
	for _, path := range []int{math.MinInt, -8, -1, 8, 9, 15, 16, 63, 64, 256, 1 << 32, math.MaxInt} {
		b := written(t, 10, 20, 4, 30, "abcd")
		noNext(t, b, path)
		all(t, "no path", !b.May(path, 10, 4), !b.Sent(path, 10), b.High() == 10)
		for p := range 8 {
			b.Sent(p, 10)
		}
		all(t, "no path", !b.Lost(path, 10), !b.Held(path, 10), !b.Sent(path, 10))
		wantChunks(t, b, data(10, 4, 0, 1, 2, 3, 4, 5, 6, 7))
	}
	for _, path := range []int{0, 1, 6, 7} {
		b := written(t, 10, 20, 4, 30, "abcd")
		wantNext(t, b, path, data(10, 4))
		all(t, "a path", b.May(path, 10, 4), b.Sent(path, 10))
		wantChunks(t, b, data(10, 4, path))
		all(t, "and another", !b.Lost((path+1)%8, 10), !b.Held((path+1)%8, 10), b.Lost(path, 10), b.Sent(path, 10), b.Held(path, 10))
	}
}

// P9.6: sent once a path, on several at once, and again when it was lost.
func TestSent(t *testing.T) {
	b := written(t, 10, 20, 4, 30, "abcdefgh")
	all(t, "twice on one path", b.Sent(3, 10), !b.Sent(3, 10), b.High() == 14)
	all(t, "on several", b.Sent(7, 10), b.Sent(0, 10))
	wantChunks(t, b, data(10, 4, 0, 3, 7), data(14, 4))
	all(t, "the higher one", b.Sent(1, 14), b.High() == 18, b.Sent(2, 10), b.High() == 18)
	all(t, "lost and sent again", b.Lost(3, 10), !b.Lost(3, 10), b.Sent(3, 10))
	wantChunks(t, b, data(10, 4, 0, 2, 3, 7), data(14, 4, 1))
	numbers(t, b, 10, 18, 18, 30, 12)
}

// P9.6: a chunk that is held is so for good; it is under way still where it was beside.
func TestHeld(t *testing.T) {
	b := written(t, 10, 20, 4, 30, "abcdefgh")
	all(t, "not under way", !b.Lost(0, 10), !b.Held(0, 10))
	wantWant(t, b, data(10, 4))
	b.Sent(0, 10)
	b.Sent(1, 10)
	all(t, "on another path", !b.Lost(2, 10), !b.Held(2, 10))
	wantChunks(t, b, data(10, 4, 0, 1), data(14, 4))
	all(t, "held", b.Held(0, 10), !b.Held(0, 10), !b.Lost(0, 10))
	held := data(10, 4, 1)
	held.Held = true
	wantChunks(t, b, held, data(14, 4))
	all(t, "not again", !b.May(0, 10, 4), !b.May(5, 10, 4), !b.Sent(0, 10), !b.Sent(5, 10))
	wantNext(t, b, 5, data(14, 4))
	all(t, "lost elsewhere", b.Lost(1, 10), !b.May(1, 10, 4))
	held.On = nil
	wantChunks(t, b, held, data(14, 4))
	numbers(t, b, 10, 14, 18, 30, 12)
	all(t, "its bytes stay", string(b.Bytes(10)) == "abcd")

	b = written(t, 10, 20, 4, 30, "abcd")
	b.Sent(0, 10)
	b.Sent(1, 10)
	all(t, "held by two", b.Held(1, 10), b.Held(0, 10))
	wantNone(t, b)
}

// P9.7: of what there is no chunk there are no bytes.
func TestBytes(t *testing.T) {
	b := written(t, 10, 20, 4, 0, "abcdefg")
	b.Write([]byte("hi"))
	b.Close()
	all(t, "bytes", string(b.Bytes(10)) == "abcd", string(b.Bytes(14)) == "efg", string(b.Bytes(17)) == "hi")
	for _, off := range []uint64{0, 9, 11, 13, 15, 16, 18, 19, 20, 1 << 63, math.MaxUint64} {
		if got := b.Bytes(off); len(got) > 0 {
			t.Errorf("Bytes(%d): %q", off, got)
		}
	}
}

// P9.8: Free counts from Acked on, also within a chunk, and not by what is held; beside MaxOff it counts the room alone.
func TestFree(t *testing.T) {
	b := written(t, 10, 8, 4, 30, "abcdefgh")
	all(t, "full", b.Free() == 0, b.Sent(0, 10), b.Held(0, 10), b.Free() == 0, b.Write([]byte("x")) == 0)
	all(t, "within a chunk", b.Ack(11, 0), b.Free() == 1, b.Write([]byte("xy")) == 1, b.Free() == 0)
	wantChunks(t, b, api.Chunk{Off: 10, Len: 4, Held: true}, data(14, 4), data(18, 1))
	all(t, "the last offset", sendbuf.New(1<<62, 8, 4, 0).Free() == 8)
}

// P9.8: Done needs the Close, and v behind the end.
func TestDone(t *testing.T) {
	b := written(t, 10, 8, 4, 30, "ab")
	all(t, "open", b.Sent(0, 10), b.Ack(12, 0), !b.Done())
	all(t, "closed", b.Close(), !b.Done(), b.Sent(0, 12), !b.Done(), b.Held(0, 12), !b.Done(), b.Ack(13, 0), b.Done())
}

// Rule 0.3: two buffers know nothing of one another.
func TestApart(t *testing.T) {
	a, b := written(t, 0, 20, 4, 20, "abcdefgh"), written(t, 0, 20, 4, 20, "ABCDEFGH")
	a.Sent(0, 0)
	a.Held(0, 0)
	a.Ack(4, 40)
	a.Close()
	wantChunks(t, b, data(0, 4), data(4, 4))
	numbers(t, b, 0, 0, 8, 20, 12)
	all(t, "apart", !b.Closed(), string(b.Bytes(0)) == "ABCD", string(a.Bytes(4)) == "efgh")
}

// Rule 0.4: what is handed in is neither changed, nor its spare room, nor kept.
func TestBytesHandedIn(t *testing.T) {
	p := []byte("abcdefgh--------")
	b := sendbuf.New(0, 20, 3, 20)
	all(t, "written", b.Write(p[:8]) == 8, string(p) == "abcdefgh--------")
	for i := range p {
		p[i] = '!'
	}
	b.Write(p[:2])
	all(t, "its own", string(b.Bytes(0)) == "abc", string(b.Bytes(3)) == "def", string(b.Bytes(6)) == "gh", string(b.Bytes(8)) == "!!")
}

// Rule 0.4: bytes that are handed out are written to and grown, and the buffer does not feel it.
func TestBytesHandedOut(t *testing.T) {
	b := written(t, 0, 20, 3, 20, "abcdefgh")
	for _, off := range []uint64{0, 3, 6} {
		x := b.Bytes(off)
		clear(x[:cap(x)])
		_ = append(x, "!!!!!!!!!!"...)
		_ = append(x[:0], "????????"...)
	}
	var got []byte
	for _, c := range b.Chunks() {
		got = append(got, b.Bytes(c.Off)...)
	}
	if string(got) != "abcdefgh" {
		t.Errorf("%q", got)
	}
}

// scribble writes over a chunk's list and its spare room.
func scribble(c api.Chunk) {
	for i := range c.On {
		c.On[i] = 5
	}
	_ = append(c.On, 6, 6, 6)
	clear(c.On[:cap(c.On)])
}

// Rule 0.4: lists that are handed out are written to and grown, and neither the buffer nor another list feels it.
func TestListsHandedOut(t *testing.T) {
	b := written(t, 0, 20, 2, 20, "abcdef")
	for _, path := range []int{0, 2, 7} {
		b.Sent(path, 0)
		b.Sent(path, 2)
	}
	want := []api.Chunk{data(0, 2, 0, 2, 7), data(2, 2, 0, 2, 7), data(4, 2)}
	l, other := b.Chunks(), b.Chunks()
	next, _ := b.Next(1)
	scribble(next)
	scribble(l[0])
	if !sameChunk(l[1], want[1]) {
		t.Errorf("two chunks of one answer share their lists: %+v", l)
	}
	for i := range l {
		l[i] = api.Chunk{Off: 77}
	}
	_ = append(l, api.Chunk{}, api.Chunk{})
	clear(l[:cap(l)])
	if !slices.EqualFunc(other, want, sameChunk) {
		t.Errorf("%+v, want %+v", other, want)
	}
	wantChunks(t, b, want...)
}

// P9.9: more chunks than anyone should make go through, one byte each, out of order, each way of being acknowledged.
func TestManyChunks(t *testing.T) {
	text := []byte(strings.Repeat("0123456789abcdef", 4096))
	b := sendbuf.New(3, api.MaxBuf, 1, 1<<62)
	all(t, "all", b.Write(text) == api.MaxBuf, len(b.Chunks()) == api.MaxBuf, b.Close())
	var got []byte
	for i := range uint64(api.MaxBuf) {
		c, ok := b.Want()
		if !ok || c.Off != 3+i || !b.Sent(int(i%8), c.Off) {
			t.Fatalf("Want %+v %v at %d", c, ok, i)
		}
		got = append(got, b.Bytes(c.Off)...)
		if i%3 == 0 {
			b.Held(int(i%8), c.Off)
		}
		if i%5 == 0 && !b.Ack(c.Off+1, 0) {
			t.Fatalf("Ack at %d", i)
		}
	}
	all(t, "the end", bytes.Equal(got, text), b.Sent(0, 3+api.MaxBuf), b.Ack(4+api.MaxBuf, 0), b.Done(), b.Free() == api.MaxBuf)
}

// P9.9: a long stream through a small buffer: the bytes that were accepted are those of the chunks, in their order.
func TestLongStream(t *testing.T) {
	b := sendbuf.New(0, 7, 3, 1<<62)
	var in, out []byte
	for i := range 20000 {
		p := []byte{byte(i), byte(i >> 8), byte(i >> 3), 4}[:1+i%4]
		in = append(in, p[:b.Write(p)]...)
		if c, ok := b.Want(); ok && b.Sent(0, c.Off) {
			out = append(out, b.Bytes(c.Off)...)
			b.Ack(b.High()-uint64(i%2), 0)
		}
	}
	if len(out) < 20000 || !bytes.HasPrefix(in, out) || len(in)-len(out) > 7 {
		t.Errorf("%d bytes went out of %d", len(out), len(in))
	}
}
