package gobackn_test

import (
	"bytes"
	"encoding/binary"
	"hash/crc32"
	"math"
	"reflect"
	"testing"

	"braid/api"
	"braid/gobackn"
	"braid/wire"
)

// P12.4: a row of one fewer than Backn, of just so many, and of one more.
func TestRow(t *testing.T) {
	for n := 6; n <= 10; n++ {
		e := end(t, 0, mss(1))
		writes(t, e, fifty[:n], n)
		chunks := row(0, 0, fifty[:n], 1)
		first := min(n, 8)
		sends(t, e, chunks[:first]...)
		path(t, e, 0, first, 1000)
		e.Close()
		chunks = append(chunks, fin(uint64(n), uint64(n)))
		now := min(n+1, 8)
		sends(t, e, chunks[first:now]...)
		path(t, e, 0, now, 1000)
		answers(t, e, ack(1), chunks[now:min(n+1, 9)]...)
		answers(t, e, ack(8), chunks[min(n+1, 9):]...)
	}
}

// E6, P12.4: a chunk goes out if all its bytes lie ahead of the edge.
func TestEdge(t *testing.T) {
	for edge := uint64(4); edge <= 13; edge++ {
		e := end(t, 0, func(c *api.Config) { c.RecvBuf = 4 })
		writes(t, e, "abcdefghijk", 11)
		chunks := row(0, 0, "abcdefghijk", 4)
		sends(t, e, chunks[0])
		more := 1
		for _, reach := range []uint64{8, 11} {
			if reach <= edge {
				more++
			}
		}
		answers(t, e, dack(0, edge), chunks[1:more]...)
		if s := e.Stat(); s.Edge != edge || s.High != min(edge/4*4, 8)+uint64(more/3*3) {
			t.Errorf("edge %d: %+v", edge, s)
		}
		answers(t, e, dack(0, 3)) // the edge never falls
		if s := e.Stat(); s.Edge != edge {
			t.Errorf("edge %d: %+v", edge, s)
		}
	}
}

// taker is a side that has taken two chunks, of six bytes.
func taker(t *testing.T) *gobackn.End {
	t.Helper()
	e := end(t, 1)
	hear(t, e, data(0, 0, "abcd"))
	hear(t, e, data(1, 4, "ef"))
	e.Out()
	return e
}

// taken fails unless a taker answers a chunk with an ACK of so many chunks (of 0 with none) and a DACK, and a PROBE behind it likewise.
func taken(t *testing.T, e *gobackn.End, f api.Frame, acks, next uint64) {
	t.Helper()
	if acks == 0 {
		answers(t, e, f, dack(next, 40))
	} else {
		answers(t, e, f, ack(acks), dack(next, 40))
	}
	answers(t, e, probe(5), ack(max(acks, 2)), dack(next, 40))
}

// P12.5, E7: a DATA with a Num below, at and above Expected, taken and refused by the buffer.
func TestHearData(t *testing.T) {
	for _, x := range []struct {
		what  string
		f     api.Frame
		acks  uint64 // 0: none
		next  uint64
		holes int
	}{
		{"next", data(2, 6, "gh"), 3, 8, 0},
		{"next, of as many bytes as there is room for", data(2, 6, fifty[6:40]), 3, 40, 0},
		{"next, and nothing new in it", data(2, 0, "abcd"), 3, 6, 0},
		{"next, and something new in it", data(2, 5, "fgh"), 3, 8, 0},
		{"next, and it lies apart", data(2, 7, "h"), 3, 6, 1},
		{"next, and beyond the edge", data(2, 6, fifty[6:41]), 0, 6, 0},
		{"next, and far beyond the edge", data(2, 1<<62-1, "x"), 0, 6, 0},
		{"the last one again", data(1, 4, "ef"), 2, 6, 0},
		{"the first one again", data(0, 0, "abcd"), 2, 6, 0},
		{"below, and not what it was", data(1, 6, "gh"), 2, 6, 0},
		{"below, and beyond the edge", data(0, 100, "x"), 2, 6, 0},
		{"above", data(3, 6, "gh"), 0, 6, 0},
		{"far above", data(1<<62, 6, "gh"), 0, 6, 0},
		{"above, and nothing new in it", data(3, 0, "abcd"), 0, 6, 0},
	} {
		t.Run(x.what, func(t *testing.T) {
			e := taker(t)
			taken(t, e, x.f, x.acks, x.next)
			if s := e.Stat(); s.Holes != x.holes || s.Next != x.next || s.Ready != int(x.next) {
				t.Errorf("%+v", s)
			}
			reads(t, e, 99, fifty[:x.next], false)
		})
	}
}

// P12.5, E7: the same of a FIN.
func TestHearFin(t *testing.T) {
	for _, x := range []struct {
		what string
		f    api.Frame
		acks uint64
		next uint64
	}{
		{"next", fin(2, 6), 3, 7},
		{"next, and at the edge", fin(2, 40), 3, 6},
		{"next, and beyond the edge", fin(2, 41), 0, 6},
		{"next, and ahead of what has come", fin(2, 5), 0, 6},
		{"next, and at the last offset", fin(2, 1<<62), 0, 6},
		{"below", fin(1, 6), 2, 6},
		{"above", fin(3, 6), 0, 6},
		{"far above", fin(1<<62, 6), 0, 6},
	} {
		t.Run(x.what, func(t *testing.T) {
			e := taker(t)
			taken(t, e, x.f, x.acks, x.next)
			reads(t, e, 99, "abcdef", false)
			reads(t, e, 99, "", x.next == 7)
		})
	}
}

// P12.5: behind the end chunks are taken by their Num too, as far as the buffer takes them.
func TestHearBehindFin(t *testing.T) {
	e := taker(t)
	answers(t, e, fin(2, 6), ack(3), dack(7, 40))
	answers(t, e, fin(2, 6), ack(3), dack(7, 40))
	answers(t, e, fin(3, 7), dack(7, 40))
	answers(t, e, data(3, 6, "g"), dack(7, 40))
	answers(t, e, data(3, 5, "f"), ack(4), dack(7, 40))
	answers(t, e, fin(4, 6), ack(5), dack(7, 40))
	reads(t, e, 99, "abcdef", false)
}

// P12.2: while Expected is 0 no ACK goes out.
func TestNoAck(t *testing.T) {
	e := end(t, 1)
	answers(t, e, probe(0), dack(0, 40))
	answers(t, e, probe(1<<62), dack(0, 40))
	answers(t, e, data(1, 4, "ef"), dack(0, 40))
	answers(t, e, data(0, 41, "x"), dack(0, 40))
	answers(t, e, fin(0, 41), dack(0, 40))
	answers(t, e, data(0, 0, "a"), ack(1), dack(1, 40))
	answers(t, e, probe(0), ack(1), dack(1, 40))
}

// sender is a side with five chunks under way.
func sender(t *testing.T) *gobackn.End {
	t.Helper()
	e := end(t, 0)
	writes(t, e, fifty[:20], 20)
	e.Out()
	return e
}

// P12.6: which ACKs are heard, and what they settle. What is settled does not go out again.
func TestHearAck(t *testing.T) {
	for _, x := range []struct {
		what    string
		ranges  []api.Range
		settled int
	}{
		{"the first", []api.Range{{Hi: 1}}, 1},
		{"some", []api.Range{{Hi: 3}}, 3},
		{"all", []api.Range{{Hi: 5}}, 5},
		{"one more than have gone out", []api.Range{{Hi: 6}}, 0},
		{"far more", []api.Range{{Hi: 1<<62 + 1}}, 0},
		{"not from 0 on", []api.Range{{Lo: 1, Hi: 3}}, 0},
		{"two", []api.Range{{Hi: 1}, {Lo: 2, Hi: 3}}, 0},
		{"eight", []api.Range{{Hi: 1}, {Lo: 2, Hi: 3}, {Lo: 4, Hi: 5}, {Lo: 6, Hi: 7}, {Lo: 8, Hi: 9}, {Lo: 10, Hi: 11}, {Lo: 12, Hi: 13}, {Lo: 14, Hi: 15}}, 0},
	} {
		t.Run(x.what, func(t *testing.T) {
			e := sender(t)
			answers(t, e, api.Frame{Kind: api.KindAck, Ranges: x.ranges})
			path(t, e, 0, 5-x.settled, 1000)
			if s := e.Stat(); s.Acked != 0 || s.Free != 40 || s.High != 20 {
				t.Errorf("%+v", s)
			}
			want := row(0, 0, fifty[:20], 4)[x.settled:]
			if x.settled == 5 { // nothing is under way, and the stream waits
				want = []api.Frame{probe(0)}
			}
			ticks(t, e, 1000, want...)
		})
	}
}

// P12.6: an ACK of fewer than before settles nothing, and takes nothing back.
func TestOldAck(t *testing.T) {
	e := sender(t)
	answers(t, e, ack(4))
	answers(t, e, ack(2))
	path(t, e, 0, 1, 1000)
	answers(t, e, ack(4))
	ticks(t, e, 1000, data(4, 16, fifty[16:20]))
	answers(t, e, ack(6))
	answers(t, e, ack(5))
	path(t, e, 0, 0, 1000)
}

// P12.5, E8: what a DACK settles.
func TestHearDack(t *testing.T) {
	for _, x := range []struct {
		what    string
		v, edge uint64
		heard   bool
		settled int
	}{
		{"nothing new", 0, 0, true, 0},
		{"an edge alone", 0, 41, true, 0},
		{"within the first", 3, 40, true, 0},
		{"the first", 4, 40, true, 1},
		{"within the third", 9, 40, true, 2},
		{"all but the last byte", 19, 50, true, 4},
		{"all", 20, 50, true, 5},
		{"more than has gone out", 21, 50, false, 0},
		{"far more", 1<<62 + 1, 1 << 63, false, 0},
	} {
		t.Run(x.what, func(t *testing.T) {
			e := sender(t)
			answers(t, e, dack(x.v, x.edge))
			path(t, e, 0, 5-x.settled, 1000)
			v, edge := uint64(0), uint64(40)
			if x.heard {
				v, edge = x.v, max(edge, x.edge)
			}
			if s := e.Stat(); s.Acked != v || s.Edge != edge || s.Free != 40+int(v) {
				t.Errorf("%+v", s)
			}
			ticks(t, e, 1000, row(0, 0, fifty[:20], 4)[x.settled:]...)
			answers(t, e, dack(0, 0)) // v and the edge never fall
			if s := e.Stat(); s.Acked != v || s.Edge != edge {
				t.Errorf("%+v", s)
			}
		})
	}
}

// E8: if the end has gone out v may be behind it.
func TestHearDackOfEnd(t *testing.T) {
	e := sender(t)
	e.Close()
	sends(t, e, fin(5, 20))
	answers(t, e, dack(22, 100))
	path(t, e, 0, 6, 1000)
	answers(t, e, dack(20, 40))
	path(t, e, 0, 1, 1000)
	ticks(t, e, 1000, fin(5, 20))
	answers(t, e, dack(21, 40))
	path(t, e, 0, 0, 1000)
	if s := e.Stat(); s.Acked != 21 || s.Done || s.Edge != 40 {
		t.Errorf("%+v", s)
	}
	ticks(t, e, 9999) // the stream waits no more: Quiet
	ticks(t, e, 1, probe(0))

	e = end(t, 0, mss(1))
	writes(t, e, fifty[:9], 9)
	e.Close() // neither the ninth chunk nor the end has gone out
	answers(t, e, dack(9, 40), row(0, 0, fifty[:8], 1)...)
	if s := e.Stat(); s.Acked != 0 {
		t.Errorf("%+v", s)
	}
	answers(t, e, dack(8, 40), data(8, 8, "i"), fin(9, 9))
}

// P12.6: ACK and DACK settle side by side, whichever comes first.
func TestAckBesideDack(t *testing.T) {
	chunks := row(0, 0, fifty, 4)
	e := end(t, 0)
	writes(t, e, fifty, 50)
	e.Out()
	answers(t, e, ack(3), chunks[8:10]...)
	answers(t, e, dack(8, 44), chunks[10]) // the edge was what barred it
	path(t, e, 0, 8, 1000)
	answers(t, e, dack(16, 50), chunks[11])
	path(t, e, 0, 8, 1000)
	answers(t, e, ack(4))
	answers(t, e, ack(5), chunks[12])
	ticks(t, e, 1000, chunks[5:]...)
	answers(t, e, dack(16, 50))
	answers(t, e, ack(13))
	answers(t, e, dack(49, 50))
	path(t, e, 0, 0, 1000)
	answers(t, e, dack(50, 50))
	if s := e.Stat(); s.Free != 60 || s.Acked != 50 {
		t.Errorf("%+v", s)
	}
}

// P12.5: what is not heard changes nothing, and takes no strike away.
func TestNotHeard(t *testing.T) {
	e := sender(t)
	ticks(t, e, 1000, row(0, 0, fifty[:20], 4)...)
	before := e.Stat()
	heard := []api.Frame{data(0, 1000, "a"), fin(0, 1000), probe(0), ack(2), dack(8, 99), {Kind: api.KindPrio}, {Kind: api.KindGone}}
	for _, f := range append(heard, rst(7), rst(9)) {
		b, bad := wire.Encode(f)
		if bad != api.OK {
			t.Fatal(bad)
		}
		for _, p := range []int{1, 7, 8, -1, 256, 1 << 32, math.MaxInt, math.MinInt} {
			e.Receive(p, b) // on another path
		}
		for i := range b { // bytes that are no frame
			turned := bytes.Clone(b)
			turned[i] ^= 64
			e.Receive(0, turned)
			e.Receive(0, b[:i])
		}
		e.Receive(0, append(bytes.Clone(b), 0))
		f.Path = 1 // a frame of another path
		if b, bad = wire.Encode(f); bad != api.OK {
			t.Fatal(bad)
		}
		e.Receive(0, b)
		e.Receive(1, b)
	}
	hear(t, e, rst(9)) // another one's token
	e.Receive(0, nil)
	sends(t, e)
	if s := e.Stat(); !reflect.DeepEqual(s, before) {
		t.Errorf("%+v, want %+v", s, before)
	}
	path(t, e, 1, 5, 2000)
}

// P12.5, P13.7: an ACK without a range is no frame, however its short sum stands.
func TestAckWithoutRange(t *testing.T) {
	e := sender(t)
	e.Tick(1000)
	e.Out()
	b, bad := wire.Encode(ack(1))
	if bad != api.OK {
		t.Fatal(bad)
	}
	none := []byte{b[0], b[1], 0}
	none = binary.BigEndian.AppendUint32(none, crc32.ChecksumIEEE(none))
	if _, bad := wire.Decode(none); bad != api.ErrField {
		t.Fatal(bad)
	}
	e.Receive(0, none)
	path(t, e, 1, 5, 2000)
}

// E12: whatever is heard takes all strikes away, and a PROBE that is under way with them; a dead side goes on sending.
func TestWake(t *testing.T) {
	mac := func(n int) []byte { return make([]byte, n) }
	for kind, x := range map[int]struct {
		f    api.Frame
		want []api.Frame
	}{
		api.KindData:   {data(9, 1000, "x"), []api.Frame{dack(1000, 1040)}},
		api.KindFin:    {fin(9, 1000), []api.Frame{dack(1000, 1040)}},
		api.KindProbe:  {probe(3), []api.Frame{dack(1000, 1040)}},
		api.KindAck:    {ack(9), nil},
		api.KindDack:   {dack(99, 99), nil},
		api.KindJoin:   {api.Frame{Kind: api.KindJoin, Token: tokenOf(7), Nonce: 5}, nil},
		api.KindJoined: {api.Frame{Kind: api.KindJoined, Nonce: 5, Mac: mac(8)}, nil},
		api.KindProve:  {api.Frame{Kind: api.KindProve, Mac: mac(20)}, nil},
		api.KindPrio:   {api.Frame{Kind: api.KindPrio, Backup: true}, nil},
		api.KindGone:   {api.Frame{Kind: api.KindGone}, nil},
	} {
		e := sender(t)
		e.Tick(1000)
		e.Tick(2000)
		e.Out()
		path(t, e, 2, 1, 4000)
		answers(t, e, x.f, append(x.want, row(0, 0, fifty[:20], 4)...)...)
		path(t, e, 0, 5, 1000)
		if s := e.Stat(); s.Paths[0].Backup || s.Err != api.OK {
			t.Errorf("kind %d: %+v", kind, s)
		}
		ticks(t, e, 999)
		ticks(t, e, 1, row(0, 0, fifty[:20], 4)...) // the mark was set anew
	}
}

// P12.6: what an ACK or a DACK settles while nothing is under way does not go out again either.
func TestSettledWhileDead(t *testing.T) {
	for _, f := range []api.Frame{ack(3), dack(12, 40), dack(14, 40)} {
		e := sender(t)
		e.Tick(1000)
		e.Tick(2000)
		e.Out()
		answers(t, e, f, row(0, 0, fifty[:20], 4)[3:]...)
		path(t, e, 0, 2, 1000)
	}
	e := sender(t)
	e.Tick(1000)
	e.Tick(2000)
	e.Out()
	answers(t, e, ack(5))
	path(t, e, 0, 0, 1000)
	writes(t, e, "y", 1)
	sends(t, e, data(5, 20, "y"))
}

// E9: an RST counts, if it bears this side's token.
func TestHearReset(t *testing.T) {
	for side, key := range [2]uint64{7, 9} {
		e := end(t, side)
		for _, token := range []uint32{tokenOf(16 - key), 0, math.MaxUint32, tokenOf(key) ^ 1, tokenOf(key) ^ 1<<31} {
			answers(t, e, api.Frame{Kind: api.KindRst, Token: token})
		}
		if s := e.Stat(); s.Err != api.OK {
			t.Errorf("side %d: %v", side, s.Err)
		}
		answers(t, e, rst(key))
		if s := e.Stat(); s.Err != api.ErrReset {
			t.Errorf("side %d: %v", side, s.Err)
		}
	}
}
