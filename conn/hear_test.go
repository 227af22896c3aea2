package conn_test

import (
	"bytes"
	"encoding/binary"
	"hash/crc32"
	"math"
	"reflect"
	"slices"
	"testing"

	"braid/api"
	"braid/conn"
	"braid/join"
	"braid/wire"
)

// sender is side A with two of three paths joined, and five chunks under way on path 0.
func sender(t *testing.T, changes ...change) *conn.End {
	t.Helper()
	e := joined(t, end(t, 0, append([]change{wide, paths(3)}, changes...)...), 0, 1)
	writes(t, e, fifty[:20], 20)
	sends(t, e, row(0, 0, fifty[:20], 4)...)
	return e
}

// unchanged fails unless a side stands as it did, and sends nothing.
func unchanged(t *testing.T, e *conn.End, before api.Stat) {
	t.Helper()
	sends(t, e)
	if s := e.Stat(); !reflect.DeepEqual(s, before) {
		t.Errorf("%+v, want %+v", s, before)
	}
}

// ofEachKind is a frame of each kind that side A would hear on a path.
func ofEachKind(path int) []api.Frame {
	l := []api.Frame{data(0, 1000, "a"), fin(0, 1000), probe(0), ack(0, 2), dack(8, 5000), rst(7), prio(true), gone(0), gone(1)}
	l = append(l, api.Frame{Kind: api.KindJoin, Token: tokenOf(7), Nonce: 5}, api.Frame{Kind: api.KindJoin, Token: tokenOf(9), Nonce: 5})
	l = append(l, api.Frame{Kind: api.KindJoined, Mac: make([]byte, 8)}, api.Frame{Kind: api.KindProve, Mac: make([]byte, 20)})
	for i := range l {
		l[i].Path = path
	}
	return l
}

// P13.7, P13.13: bytes that are no frame, frames on a path that is not there, and those of another path change nothing.
func TestNotHeard(t *testing.T) {
	e := sender(t)
	e.Tick(1000) // so that waking would be seen
	e.Out()
	before := e.Stat()
	for path := range 8 {
		for _, f := range ofEachKind(path) {
			b := encoded(t, f)
			for _, other := range append(strange, 0, 1, 2) {
				if other != path {
					e.Receive(other, b)
				}
			}
			for at := range 3 {
				for i := range b { // bytes that are no frame
					turned := bytes.Clone(b)
					turned[i] ^= 64
					e.Receive(at, turned)
					e.Receive(at, b[:i])
				}
				e.Receive(at, append(bytes.Clone(b), 0))
				e.Receive(at, nil)
			}
			unchanged(t, e, before)
		}
	}
}

// P13.7, P13.13: what is no frame by its fields, however its short sum stands.
func TestBadFields(t *testing.T) {
	e := sender(t)
	e.Tick(1000)
	e.Out()
	before := e.Stat()
	for _, b := range [][]byte{
		{api.KindAck, 0, 0},
		{api.KindPrio, 0, 2},
		{api.KindPrio, 0, 1, 0},
		{api.KindGone, 0, 8},
		{0, 0, 1},
		{12, 0, 1},
		append([]byte{api.KindDack, 0}, make([]byte, 17)...),
		append([]byte{api.KindProbe, 0, 255}, make([]byte, 7)...),
	} {
		b = binary.BigEndian.AppendUint32(b, crc32.ChecksumIEEE(b))
		if _, bad := wire.Decode(b); bad == api.OK {
			t.Fatalf("%x can be read", b)
		}
		e.Receive(0, b)
		unchanged(t, e, before)
	}
}

// P13.7: on a path that is not joined, or is left, nothing is heard but RST and the handshake.
func TestNotJoined(t *testing.T) {
	for _, x := range []struct {
		what  string
		state int
		set   func(e *conn.End)
	}{
		{"not asked for", join.None, func(*conn.End) {}},
		{"asked for", join.Asked, func(e *conn.End) { e.Join(2, false) }},
		{"left", join.Left, func(e *conn.End) { joinPath(t, e, 0, 2, false); e.Leave(2) }},
		{"left by the peer", join.Left, func(e *conn.End) { joinPath(t, e, 0, 2, false); hear(t, e, gone(2)) }},
	} {
		t.Run(x.what, func(t *testing.T) {
			e := sender(t)
			x.set(e)
			e.Out()
			state(t, e, 3, 3, x.state)
			before := e.Stat()
			for _, f := range ofEachKind(2) {
				if f.Kind != api.KindRst {
					answers(t, e, f)
					unchanged(t, e, before)
				}
			}
			answers(t, e, on(2, rst(9)))
			unchanged(t, e, before)
			answers(t, e, on(2, rst(7)))
			broken(t, e, api.ErrReset)
		})
	}
	b := end(t, 1, wide)
	hear(t, b, shaken(1, false)[0])
	b.Out()
	state(t, b, 3, join.Answered)
	before := b.Stat()
	for _, f := range []api.Frame{data(0, 0, "a"), fin(0, 0), probe(0), ack(0, 1), dack(1000, 9999), prio(true), gone(0)} {
		answers(t, b, on(1, f))
		unchanged(t, b, before)
	}
}

// E9: an RST counts, if it bears this side's token; on any path that there is.
func TestHearReset(t *testing.T) {
	for side, key := range [2]uint64{7, 9} {
		for path := range 3 {
			e := joined(t, end(t, side, paths(3)), side, 1)
			before := e.Stat()
			for _, token := range []uint32{tokenOf(16 - key), 0, math.MaxUint32, tokenOf(key) ^ 1, tokenOf(key) ^ 1<<31} {
				answers(t, e, api.Frame{Kind: api.KindRst, Path: path, Token: token})
				unchanged(t, e, before)
			}
			answers(t, e, on(path, rst(key)))
			if s := e.Stat(); s.Err != api.ErrReset {
				t.Errorf("side %d: %v", side, s.Err)
			}
		}
	}
}

// P13.7: an RST with another token takes no strike away: it is E9's, and nothing more.
func TestResetWakesNot(t *testing.T) {
	e := sender(t)
	strike(t, e, 0, 1)
	before := e.Stat()
	answers(t, e, rst(9))
	unchanged(t, e, before)
}

// P13.7: the handshake at B: a JOIN that comes again, with another flag, another token, and when the path is joined.
func TestShakeB(t *testing.T) {
	e := end(t, 1)
	f, g := shaken(1, true), shaken(1, false)
	wrong := f[0]
	wrong.Token = tokenOf(7)
	answers(t, e, wrong)
	state(t, e, 3, 0)
	answers(t, e, f[2]) // a proof that nobody has asked for
	answers(t, e, f[0], f[1])
	if p := e.Stat().Paths[1]; p.State != join.Answered || !p.Backup {
		t.Errorf("%+v", p)
	}
	answers(t, e, g[0], f[1]) // the nonces are the same
	if p := e.Stat().Paths[1]; p.State != join.Answered || p.Backup {
		t.Errorf("%+v", p)
	}
	answers(t, e, f[0], f[1])
	wrong = f[2]
	wrong.Mac = append([]byte{f[2].Mac[0] ^ 1}, f[2].Mac[1:]...)
	answers(t, e, wrong)
	answers(t, e, wrongMac(f[1]))
	state(t, e, 3, join.Answered)
	answers(t, e, f[2])
	state(t, e, 3, 3)
	before := e.Stat()
	for _, again := range []api.Frame{f[0], g[0], f[1], f[2], wrong} {
		answers(t, e, again)
		unchanged(t, e, before) // the flag too
	}
	e.Leave(1)
	e.Out()
	before = e.Stat()
	answers(t, e, f[0])
	unchanged(t, e, before)
}

// wrongMac is a frame with one bit of its Mac turned.
func wrongMac(f api.Frame) api.Frame {
	f.Mac = slices.Clone(f.Mac)
	f.Mac[len(f.Mac)-1] ^= 1
	return f
}

// P13.7: the handshake at A: a JOINED with a wrong Mac, one that nobody has asked for, one that comes again.
func TestShakeA(t *testing.T) {
	e := end(t, 0)
	f := shaken(1, true)
	answers(t, e, f[1])
	state(t, e, 3, 0)
	e.Join(1, true)
	e.Out()
	answers(t, e, wrongMac(f[1]))
	answers(t, e, f[0])
	answers(t, e, f[2])
	state(t, e, 3, 1)
	answers(t, e, f[1], f[2])
	state(t, e, 3, 3)
	before := e.Stat()
	answers(t, e, f[1], f[2]) // the PROVE may have been lost
	answers(t, e, wrongMac(f[1]))
	answers(t, e, f[0])
	unchanged(t, e, before)
	answers(t, e, on(1, prio(false)))
	answers(t, e, f[1], f[2])
	if p := e.Stat().Paths[1]; p.Backup {
		t.Errorf("%+v", p) // a JOINED says nothing of the flag
	}
}

// P13.7: a path that a JOINED, or a PROVE, has joined takes chunks at once; the answer goes out ahead of them.
func TestShakenAndSent(t *testing.T) {
	chunks := row(0, 0, fifty[:15], 1)
	a := end(t, 0, wide, mss(1))
	writes(t, a, fifty[:15], 15)
	a.Join(1, false)
	f := shaken(1, false)
	sends(t, a, append(chunks[:10:10], f[0])...)
	answers(t, a, f[1], append([]api.Frame{f[2]}, over(1, 0, chunks[10:]...)...)...)

	b := end(t, 1, wide, mss(1))
	writes(t, b, fifty[:15], 15)
	b.Out()
	answers(t, b, f[0], f[1])
	answers(t, b, f[2], over(1, 0, row(0, 1010, fifty[10:15], 1)...)...)
}

// taker is side B with two paths joined, that has taken the bytes 0 to 5 and 8 to 9 of a stream.
func taker(t *testing.T) *conn.End {
	t.Helper()
	e := joined(t, end(t, 1, func(c *api.Config) { c.RecvBuf, c.Gaps = 40, 2 }), 1, 1)
	answers(t, e, data(0, 0, "abcd"), ack(0, 1), dack(4, 40))
	answers(t, e, data(3, 8, "ij"), ack(0, 1, 3, 4), dack(4, 40))
	answers(t, e, data(1, 4, "ef"), ack(0, 2, 3, 4), dack(6, 40))
	return e
}

// P13.7, E7: DATA that the buffer takes, has, and refuses.
func TestHearData(t *testing.T) {
	for _, x := range []struct {
		what   string
		f      api.Frame
		taken  bool
		next   uint64
		stored int
		holes  int
	}{
		{"next", data(2, 6, "g"), true, 7, 9, 1},
		{"next, and up to what has come", data(2, 6, "gh"), true, 10, 10, 0},
		{"next, and over what has come", data(2, 6, "ghijk"), true, 11, 11, 0},
		{"apart", data(2, 11, "l"), true, 6, 9, 2},
		{"behind what lies apart", data(2, 10, "k"), true, 6, 9, 1},
		{"up to the edge", data(2, 10, fifty[10:40]), true, 6, 38, 1},
		{"nothing new", data(2, 0, "abcdef"), true, 6, 8, 1},
		{"nothing new, with other bytes", data(2, 1, "XYZ"), true, 6, 8, 1},
		{"nothing new, and it lies apart", data(2, 9, "j"), true, 6, 8, 1},
		{"one byte beyond the edge", data(2, 10, fifty[10:41]), false, 6, 8, 1},
		{"at the edge", data(2, 40, "x"), false, 6, 8, 1},
		{"at the last offset", data(2, 1<<62-1, "x"), false, 6, 8, 1},
	} {
		t.Run(x.what, func(t *testing.T) {
			e := taker(t)
			if x.taken {
				answers(t, e, x.f, ack(0, 4), dack(x.next, 40))
			} else {
				answers(t, e, x.f, dack(x.next, 40))
				answers(t, e, probe(9), ack(0, 2, 3, 4, 9, 10), dack(x.next, 40)) // the number was not noted
			}
			if s := e.Stat(); s.Holes != x.holes || s.Next != x.next || s.Stored != x.stored || s.Ready != int(x.next) || s.Own != 40 {
				t.Errorf("%+v", s)
			}
			reads(t, e, 99, fifty[:x.next], false)
		})
	}
}

// P13.7: too many stretches would lie apart.
func TestHearCrowd(t *testing.T) {
	e := taker(t)
	answers(t, e, data(4, 11, "l"), ack(0, 2, 3, 5), dack(6, 40))
	answers(t, e, data(5, 13, "n"), dack(6, 40))
	answers(t, e, data(6, 10, "k"), ack(0, 2, 3, 5, 6, 7), dack(6, 40))
	answers(t, e, data(7, 13, "n"), ack(0, 2, 3, 5, 6, 8), dack(6, 40))
	if s := e.Stat(); s.Holes != 2 || s.Stored != 6+4+1 {
		t.Errorf("%+v", s)
	}
	answers(t, e, data(2, 6, "gh"), ack(0, 5, 6, 8), dack(12, 40))
	reads(t, e, 99, fifty[:12], false)
}

// P13.7, E7: the same of a FIN, and of DATA behind one.
func TestHearFin(t *testing.T) {
	for _, x := range []struct {
		what  string
		f     api.Frame
		taken bool
		ends  bool
	}{
		{"behind all", fin(2, 10), true, true},
		{"farther on", fin(2, 12), true, false},
		{"at the edge", fin(2, 40), true, false},
		{"beyond the edge", fin(2, 41), false, false},
		{"ahead of what has come", fin(2, 9), false, false},
		{"within what has come", fin(2, 6), false, false},
		{"at the last offset", fin(2, 1<<62), false, false},
	} {
		t.Run(x.what, func(t *testing.T) {
			e := taker(t)
			if x.taken {
				answers(t, e, x.f, ack(0, 4), dack(6, 40))
				answers(t, e, x.f, ack(0, 4), dack(6, 40)) // it comes again
				answers(t, e, fin(4, x.f.Off+1), dack(6, 40))
				answers(t, e, data(4, x.f.Off, "z"), dack(6, 40))
				answers(t, e, data(4, x.f.Off-1, "zz"), dack(6, 40))
			} else {
				answers(t, e, x.f, dack(6, 40))
			}
			hear(t, e, data(5, 6, "gh"))
			e.Out()
			next := uint64(10)
			if x.ends {
				next++
			}
			if s := e.Stat(); s.Next != next {
				t.Errorf("%+v", s)
			}
			reads(t, e, 99, fifty[:10], false)
			reads(t, e, 99, "", x.ends)
		})
	}
}

// P13.4, P13.7: each path has numbers of its own; an ACK bears those that have come on its path, whatever comes on others.
func TestAckOfPath(t *testing.T) {
	e := taker(t)
	answers(t, e, on(1, data(0, 6, "gh")), on(1, ack(0, 1)), on(1, dack(10, 40)))
	answers(t, e, on(1, probe(2)), on(1, ack(0, 1, 2, 3)), on(1, dack(10, 40)))
	answers(t, e, on(1, data(1, 40, "x")), on(1, dack(10, 40)))
	answers(t, e, on(1, fin(1, 10)), on(1, ack(0, 3)), on(1, dack(11, 40)))
	answers(t, e, probe(7), ack(0, 2, 3, 4, 7, 8), dack(11, 40))
	answers(t, e, probe(7), ack(0, 2, 3, 4, 7, 8), dack(11, 40))
	answers(t, e, probe(1<<62), ack(0, 2, 3, 4, 7, 8, 1<<62, 1<<62+1), dack(11, 40))
}

// P13.4: an ACK tells the highest eight stretches of numbers; of more than 32 the lowest is forgotten.
func TestAckOfMany(t *testing.T) {
	e := end(t, 1)
	top := func(n uint64) api.Frame {
		var l []uint64
		for i := n - min(n, 7); i <= n; i++ {
			l = append(l, 2*i, 2*i+1)
		}
		return ack(l...)
	}
	for i := range uint64(33) {
		answers(t, e, probe(2*i), top(i), dack(0, 12))
	}
	answers(t, e, probe(0), top(32), dack(0, 12)) // it was forgotten, and is so again
	for i := uint64(17); i < 64; i += 2 {
		hear(t, e, probe(i))
	}
	e.Out()
	answers(t, e, probe(1<<40), ack(4, 5, 6, 7, 8, 9, 10, 11, 12, 13, 14, 15, 16, 65, 1<<40, 1<<40+1), dack(0, 12))
}

// P13.7: what an ACK acknowledges is held, and does not go out again; windows grow by chunks.
func TestHearAck(t *testing.T) {
	for _, x := range []struct {
		what  string
		f     api.Frame
		acked int // of the five
	}{
		{"the first", ack(0, 1), 1},
		{"two", ack(0, 2), 2},
		{"the third", ack(2, 3), 1},
		{"all", ack(0, 5), 5},
		{"all, and more than were sent", ack(0, 100), 5},
		{"two ranges", ack(0, 1, 2, 3), 2},
		{"none that was sent", ack(5, 9), 0},
		{"far beyond", ack(1<<62-1, 1<<62+1), 0},
	} {
		t.Run(x.what, func(t *testing.T) {
			e := sender(t)
			e.Tick(50)
			answers(t, e, x.f)
			p := e.Stat().Paths[0]
			want := fresh(3)
			want.Inflight, want.Window.Cwnd = 5-x.acked, 10240+1024*x.acked
			if x.acked > 0 {
				want.Known, want.Srtt, want.Rto = true, 50, 200
			}
			if p != want {
				t.Errorf("%+v, want %+v", p, want)
			}
			if s := e.Stat(); s.Acked != 0 || s.Free != 3980 || s.High != 20 || s.Paths[1] != fresh(3) {
				t.Errorf("%+v", s)
			}
			before := e.Stat()
			answers(t, e, x.f) // it comes again
			unchanged(t, e, before)
		})
	}
}

// P13.7: chunks that an ACK leaves three behind are lost, and go out again; the window is cut once for a row of losses.
func TestHearLosses(t *testing.T) {
	e := sender(t)
	chunks := row(0, 0, fifty[:20], 4)
	answers(t, e, ack(2, 3))
	window(t, e, 0, 11264, 262144)
	answers(t, e, ack(2, 4), over(0, 5, chunks[0])...)
	window(t, e, 0, 6144, 6144) // (11264 + 1024) / 2
	under(t, e, 0, 0, 3, 200)
	answers(t, e, ack(4, 5), over(0, 6, chunks[1])...)
	window(t, e, 0, 6314, 6144) // below the line: no cut; and it grows by its own step, no other path being known
	answers(t, e, ack(2, 5))
	under(t, e, 0, 0, 2, 200)
	answers(t, e, ack(6, 7))
	under(t, e, 0, 0, 1, 200)
	writes(t, e, "xyz", 3)
	writes(t, e, "uvw", 3)
	sends(t, e, data(7, 20, "xyz"), data(8, 23, "uvw"))
	answers(t, e, ack(8, 9), data(9, 0, "abcd"))
	if w := e.Stat().Paths[0].Window; w.Cwnd != w.Thresh || w.Cwnd < 3000 {
		t.Errorf("%+v is not cut", w)
	}
}

// P13.7: a PROBE is no chunk, though it has the offset 0: acknowledged or lost it says nothing of a chunk there.
func TestProbeIsNoChunk(t *testing.T) {
	e := end(t, 0, wide, retries(3))
	ticks(t, e, 10000, probe(0))
	writes(t, e, "abcd", 4)
	sends(t, e, data(1, 0, "abcd"))
	answers(t, e, ack(0, 1))
	under(t, e, 0, 0, 1, 200)
	window(t, e, 0, 10240, 262144) // a PROBE makes it no greater
	ticks(t, e, 200, data(2, 0, "abcd"))

	e = end(t, 0, wide, retries(3))
	ticks(t, e, 10000, probe(0))
	writes(t, e, "abcdefghijkl", 12)
	sends(t, e, data(1, 0, "abcd"), data(2, 4, "efgh"), data(3, 8, "ijkl"))
	answers(t, e, ack(3, 4)) // the PROBE is lost, and no chunk
	under(t, e, 0, 0, 2, 200)
	window(t, e, 0, 5632, 5632) // a loss it is
}

// E8: which DACKs are heard, and what they tell.
func TestHearDack(t *testing.T) {
	for _, x := range []struct {
		what    string
		v, edge uint64
		heard   bool
	}{
		{"nothing new", 0, 0, true},
		{"an edge alone", 0, 4001, true},
		{"within the first", 3, 40, true},
		{"the first", 4, 40, true},
		{"within the third", 9, 4040, true},
		{"all but the last byte", 19, 5000, true},
		{"all", 20, 1 << 63, true},
		{"more than has gone out", 21, 5000, false},
		{"far more", 1<<62 + 1, 1 << 63, false},
	} {
		for path := range 2 {
			e := sender(t)
			answers(t, e, on(path, dack(x.v, x.edge)))
			v, edge := uint64(0), uint64(4000)
			if x.heard {
				v, edge = x.v, max(edge, x.edge)
			}
			if s := e.Stat(); s.Acked != v || s.Edge != edge || s.Free != 3980+int(v) {
				t.Errorf("%s: %+v", x.what, s)
			}
			before := e.Stat()
			answers(t, e, on(path, dack(0, 0))) // v and the edge never fall
			answers(t, e, on(1-path, dack(x.v, x.edge)))
			unchanged(t, e, before)
			under(t, e, 0, 0, 5, 1000) // a path's frames are acknowledged by ACKs alone
		}
	}
}

// E8: if the end has gone out v may be behind it.
func TestHearDackOfEnd(t *testing.T) {
	e := sender(t)
	answers(t, e, dack(21, 5000))
	e.Close()
	sends(t, e, fin(5, 20))
	answers(t, e, dack(22, 5000))
	if s := e.Stat(); s.Acked != 0 || s.Edge != 4000 {
		t.Errorf("%+v", s)
	}
	answers(t, e, dack(21, 5000))
	if s := e.Stat(); s.Acked != 21 || s.Edge != 5000 || s.Free != 4000 || s.Done {
		t.Errorf("%+v", s)
	}
	e = end(t, 0)
	writes(t, e, fifty[:16], 16)
	e.Close() // neither the fourth chunk nor the end has gone out
	e.Out()
	answers(t, e, dack(13, 20))
	answers(t, e, dack(12, 16), data(3, 12, "mnop"), fin(4, 16))
}

// E7, E8, P13.9: an edge that is told lets chunks go out at once; a chunk goes out only if all its bytes lie ahead of it.
func TestEdge(t *testing.T) {
	for edge := uint64(4); edge <= 13; edge++ {
		e := end(t, 0, func(c *api.Config) { c.RecvBuf = 4 })
		writes(t, e, "abcdefghijk", 11)
		chunks := row(0, 0, "abcdefghijk", 4)
		sends(t, e, chunks[0])
		more := 1
		for _, reach := range []uint64{8, 11} {
			if reach <= edge {
				more++
			}
		}
		answers(t, e, dack(0, edge), chunks[1:more]...)
		answers(t, e, dack(0, 3))
		if s := e.Stat(); s.Edge != edge || s.High != []uint64{0, 4, 8, 11}[more] {
			t.Errorf("edge %d: %+v", edge, s)
		}
	}
}

// P13.7: PRIO says of the path on which it comes whether it is for want of others alone; the side sends by that.
func TestHearPrio(t *testing.T) {
	for side := range 2 {
		e := joined(t, end(t, side, wide), side, 1)
		for _, backup := range []bool{true, true, false, true} {
			for path := range 2 {
				answers(t, e, on(path, prio(backup)))
				if s := e.Stat(); s.Paths[path].Backup != backup {
					t.Errorf("%+v", s)
				}
			}
		}
		answers(t, e, on(1, prio(false)))
		writes(t, e, "ab", 2)
		sends(t, e, on(1, data(0, uint64(1000*side), "ab")))
	}
}

// P13.7: GONE of a path that is joined, of the one it comes on, of the last one, and of such that are not joined or not there.
func TestHearGone(t *testing.T) {
	for side := range 2 {
		base := uint64(1000 * side)
		e := joined(t, end(t, side, wide, paths(4)), side, 2)
		writes(t, e, "abcd", 4)
		sends(t, e, data(0, base, "abcd"))
		before := e.Stat()
		for _, which := range []int{3, 4, 7} {
			answers(t, e, gone(which))
			unchanged(t, e, before)
		}
		answers(t, e, on(2, gone(0)), on(1, data(0, base, "abcd"))) // no GONE is answered
		state(t, e, 4, 3, 3, 0)
		if s := e.Stat(); s.Paths[0] != fresh(4) {
			t.Errorf("%+v", s)
		}
		before = e.Stat()
		answers(t, e, on(2, gone(0))) // it comes again
		unchanged(t, e, before)
		answers(t, e, on(1, gone(1)), on(2, data(0, base, "abcd")))
		state(t, e, 4, 4, 3, 0)
		before = e.Stat()
		answers(t, e, on(2, gone(2))) // the last one
		unchanged(t, e, before)
	}
}

// E12: whatever comes on a joined path takes all its strikes away, and no other path's; a dead one is usable again.
func TestWake(t *testing.T) {
	for _, f := range ofEachKind(0) {
		if f.Kind == api.KindRst || f.Kind == api.KindGone {
			continue
		}
		for path := range 2 {
			e := joined(t, end(t, 0, wide, retries(2)), 0, 1)
			writes(t, e, "abcd", 4)
			for range 4 {
				e.Tick(60000)
			}
			e.Out()
			for i, p := range e.Stat().Paths {
				if p.Strikes < 3 {
					t.Fatalf("path %d: %+v", i, p)
				}
			}
			before := e.Stat()
			hear(t, e, on(path, f))
			after := e.Stat()
			if after.Paths[path].Strikes != 0 || after.Paths[1-path].Strikes != before.Paths[1-path].Strikes {
				t.Errorf("kind %d on path %d: %+v", f.Kind, path, after.Paths)
			}
			if rto := after.Paths[path].Rto; rto != 1000 && f.Kind != api.KindAck {
				t.Errorf("kind %d on path %d: %+v", f.Kind, path, after.Paths)
			}
		}
	}
	e := joined(t, end(t, 0, wide), 0, 1)
	strike(t, e, 0, 2)
	answers(t, e, gone(7)) // a path that there is not
	under(t, e, 0, 0, 1, 1000)
}

// E12: chunks go out again on a path that has woken.
func TestWokenSends(t *testing.T) {
	e := end(t, 0, wide)
	writes(t, e, "abcdefgh", 8)
	sends(t, e, data(0, 0, "abcd"), data(1, 4, "efgh"))
	ticks(t, e, 1000, data(2, 0, "abcd"))
	ticks(t, e, 2000, probe(3)) // dead
	writes(t, e, "ij", 2)
	e.Close()
	sends(t, e)
	answers(t, e, dack(0, 0)) // woken, but the PROBE takes the window's one place
	under(t, e, 0, 0, 1, 1000)
	answers(t, e, ack(3, 4), data(4, 0, "abcd"))
	answers(t, e, ack(3, 5), data(5, 4, "efgh"), data(6, 8, "ij"))
}

// P13.14: DATA, ACK and DACK that come again change nothing of the two buffers.
func TestAgain(t *testing.T) {
	e := sender(t)
	hear(t, e, data(0, 1000, "abcd"))
	hear(t, e, data(2, 1006, "gh"))
	hear(t, e, ack(0, 1, 4, 5))
	hear(t, e, dack(8, 4010))
	reads(t, e, 3, "abc", false)
	e.Out()
	before := e.Stat()
	answers(t, e, data(0, 1000, "abcd"), ack(0, 1, 2, 3), dack(1004, 5003))
	answers(t, e, data(2, 1006, "gh"), ack(0, 1, 2, 3), dack(1004, 5003))
	answers(t, e, ack(0, 1, 4, 5))
	answers(t, e, dack(8, 4010))
	unchanged(t, e, before)
}
