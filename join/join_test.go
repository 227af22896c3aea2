package join_test

import (
	"bytes"
	"crypto/hmac"
	"crypto/sha256"
	"encoding/binary"
	"encoding/hex"
	"math"
	"reflect"
	"testing"

	"braid/api"
	"braid/join"
	"braid/wire"
)

func keyBytes(k uint64) []byte { return binary.BigEndian.AppendUint64(nil, k) }

func nonceBytes(n uint32) []byte { return binary.BigEndian.AppendUint32(nil, n) }

// tokenOf, nonceOf and proofOf reckon by Go's library what the chapter words.
func tokenOf(key uint64) uint32 {
	s := sha256.Sum256(keyBytes(key))
	return binary.BigEndian.Uint32(s[:])
}

func nonceOf(key uint64, path int) uint32 {
	s := sha256.Sum256(append(keyBytes(key), byte(path)))
	return binary.BigEndian.Uint32(s[:])
}

func proofOf(k1, k2 uint64, n1, n2 uint32) []byte {
	h := hmac.New(sha256.New, append(keyBytes(k1), keyBytes(k2)...))
	h.Write(nonceBytes(n1))
	h.Write(nonceBytes(n2))
	return h.Sum(nil)
}

// pair is the keys of both sides, and their path.
type pair struct {
	a, b uint64
	path int
}

var example = pair{7, 9, 1}

func (p pair) halves(retries int) (a, b *join.Half) {
	return join.New(0, p.path, p.a, p.b, retries), join.New(1, p.path, p.b, p.a, retries)
}

// join, joined and prove are the frames of a handshake that goes right.
func (p pair) join(backup bool) api.Frame {
	return api.Frame{Kind: api.KindJoin, Path: p.path, Token: tokenOf(p.b), Nonce: nonceOf(p.a, p.path), Backup: backup}
}

func (p pair) joined() api.Frame { return p.joinedTo(nonceOf(p.a, p.path)) }

// joinedTo is B's answer to a JOIN with any nonce.
func (p pair) joinedTo(heard uint32) api.Frame {
	own := nonceOf(p.b, p.path)
	return api.Frame{Kind: api.KindJoined, Path: p.path, Nonce: own, Mac: proofOf(p.b, p.a, own, heard)[:8]}
}

// joinedFrom is what a B would answer whose own nonce is any.
func (p pair) joinedFrom(nonce uint32) api.Frame {
	return api.Frame{Kind: api.KindJoined, Path: p.path, Nonce: nonce, Mac: proofOf(p.b, p.a, nonce, nonceOf(p.a, p.path))[:8]}
}

func (p pair) prove() api.Frame { return p.proveTo(nonceOf(p.b, p.path)) }

// proveTo is A's proof to a JOINED with any nonce.
func (p pair) proveTo(nonce uint32) api.Frame {
	return api.Frame{Kind: api.KindProve, Path: p.path, Mac: proofOf(p.a, p.b, nonceOf(p.a, p.path), nonce)[:20]}
}

// proveFrom is what an A would prove whose own nonce is any.
func (p pair) proveFrom(nonce uint32) api.Frame {
	return api.Frame{Kind: api.KindProve, Path: p.path, Mac: proofOf(p.a, p.b, nonce, nonceOf(p.b, p.path))[:20]}
}

func same(f, g api.Frame) bool { return reflect.DeepEqual(f, g) }

// out answers whether a call has given just this frame: out(t, what, want)(h.Tick(5)).
func out(t *testing.T, what string, want api.Frame) func(api.Frame, bool) {
	t.Helper()
	return func(f api.Frame, ok bool) {
		t.Helper()
		if !ok || !same(f, want) {
			t.Errorf("%s: %+v %v, want %+v", what, f, ok, want)
		}
	}
}

// nothing fails unless a call has given the zero frame and false.
func nothing(t *testing.T, what string) func(api.Frame, bool) {
	t.Helper()
	return func(f api.Frame, ok bool) {
		t.Helper()
		if ok || !same(f, api.Frame{}) {
			t.Errorf("%s: %+v %v, want nothing", what, f, ok)
		}
	}
}

func stands(t *testing.T, what string, h *join.Half, state int, backup bool) {
	t.Helper()
	if h.State() != state || h.Backup() != backup {
		t.Errorf("%s: state %d backup %v, want %d %v", what, h.State(), h.Backup(), state, backup)
	}
}

// at is a Half of a pair that has come to a state, with a backup and retries 1, by time 0; nil, where its side has no such state.
func (p pair) at(side, state int) *join.Half {
	h, b := p.halves(1)
	if side == api.SideB {
		h = b
	}
	switch {
	case state == join.None:
	case side == api.SideA && state == join.Answered, side == api.SideB && state == join.Asked:
		return nil
	case side == api.SideA:
		h.Start(0, true)
		if state >= join.Joined {
			h.Hear(0, p.joined())
		}
	default:
		h.Hear(0, p.join(true))
		if state >= join.Joined {
			h.Hear(0, p.prove())
		}
	}
	if state == join.Left {
		h.Leave()
	}
	return h
}

// everyState goes through both sides' states, and None behind the last try beside the first one.
func everyState(t *testing.T, p pair, do func(side, state int, h *join.Half)) {
	t.Helper()
	for side := range 2 {
		for state := range 5 {
			h := p.at(side, state)
			if h == nil {
				continue
			}
			stands(t, "on the way", h, state, state != join.None)
			do(side, state, h)
		}
		h := p.at(side, join.Asked+side)
		h.Tick(1000)
		h.Tick(3000)
		stands(t, "behind the last try", h, join.None, true)
		do(side, join.None, h)
	}
}

// Example 1.
func TestAsk(t *testing.T) {
	a, b := example.halves(2)
	f, ok := a.Start(0, true)
	out(t, "JOIN", example.join(true))(f, ok)
	if f.Token != 0x59245135 || f.Nonce != 0x60780dfa || !f.Backup || f.Path != 1 {
		t.Errorf("JOIN: %+v", f)
	}
	stands(t, "A", a, join.Asked, true)
	nothing(t, "twice")(a.Start(0, false))
	stands(t, "A", a, join.Asked, true)
	nothing(t, "B")(b.Start(0, true))
	stands(t, "B", b, join.None, false)
}

// Example 2.
func TestHandshake(t *testing.T) {
	a, b := example.halves(2)
	ask, _ := a.Start(0, true)
	answer, ok := b.Hear(5, ask)
	out(t, "JOINED", example.joined())(answer, ok)
	if answer.Nonce != 0xd7b0adca || hex.EncodeToString(answer.Mac) != "afbe308ee6cbe542" {
		t.Errorf("JOINED: %+v", answer)
	}
	stands(t, "B", b, join.Answered, true)
	proof, ok := a.Hear(9, answer)
	out(t, "PROVE", example.prove())(proof, ok)
	if hex.EncodeToString(proof.Mac) != "8bfeff74e3ad2b4463d39978ae7ba6e1b9e1e2a2" {
		t.Errorf("PROVE: %+v", proof)
	}
	stands(t, "A", a, join.Joined, true)
	nothing(t, "PROVE heard")(b.Hear(9, proof))
	stands(t, "B", b, join.Joined, true)
	out(t, "PROVE again", example.prove())(a.Hear(20, answer))
	nothing(t, "JOIN again")(b.Hear(20, ask))
	nothing(t, "PROVE heard again")(b.Hear(20, proof))
	stands(t, "A", a, join.Joined, true)
	stands(t, "B", b, join.Joined, true)
}

// Example 3.
func TestRefused(t *testing.T) {
	a, b := example.halves(2)
	ask, _ := a.Start(0, true)
	ask.Token = 0xa3eb8db8
	nothing(t, "Token(7)")(b.Hear(5, ask))
	stands(t, "B", b, join.None, false)
	answer := example.joined()
	answer.Mac[3] ^= 16
	nothing(t, "a bit turned")(a.Hear(5, answer))
	stands(t, "A", a, join.Asked, true)
}

// Example 4; and the second row of tries is as the first.
func TestTries(t *testing.T) {
	a, _ := example.halves(2)
	out(t, "Start", example.join(false))(a.Start(0, false))
	for _, from := range []uint64{0, 8000} {
		nothing(t, "999")(a.Tick(from + 999))
		out(t, "1000", example.join(false))(a.Tick(from + 1000))
		nothing(t, "2999")(a.Tick(from + 2999))
		out(t, "3000", example.join(false))(a.Tick(from + 3000))
		nothing(t, "6999")(a.Tick(from + 6999))
		stands(t, "6999", a, join.Asked, false)
		nothing(t, "7000")(a.Tick(from + 7000))
		stands(t, "7000", a, join.None, false)
		nothing(t, "7001")(a.Tick(from + 7001))
		out(t, "8000", example.join(false))(a.Start(from+8000, false))
		stands(t, "8000", a, join.Asked, false)
	}
}

// Example 5: path 0, at both sides, ahead of Leave and behind it; also of frames that any other path would take.
func TestPathZero(t *testing.T) {
	p := pair{7, 9, 0}
	for side := range 2 {
		own, peer := p.a, p.b
		if side == api.SideB {
			own, peer = peer, own
		}
		h := join.New(side, 0, own, peer, 2)
		for _, state := range []int{join.Joined, join.Left} {
			stands(t, "path 0", h, state, false)
			nothing(t, "Start")(h.Start(0, true))
			for _, f := range []api.Frame{p.join(true), p.joined(), p.prove(), {}, example.joined()} {
				nothing(t, "Hear")(h.Hear(0, f))
			}
			for _, now := range []uint64{0, 1000, 60000, math.MaxUint64} {
				nothing(t, "Tick")(h.Tick(now))
			}
			stands(t, "path 0", h, state, false)
			if h.Leave() != (state == join.Joined) {
				t.Errorf("Leave in the state %d", state)
			}
			stands(t, "path 0", h, join.Left, false)
		}
	}
}

// P11.1: of the side the lowest bit counts, below 0 too.
func TestSides(t *testing.T) {
	for _, side := range []int{0, 2, -2, 254, 256, 1 << 32, math.MinInt, math.MaxInt - 1} {
		h := join.New(side, 1, 7, 9, 1)
		stands(t, "A", h, join.None, false)
		nothing(t, "JOIN")(h.Hear(0, pair{9, 7, 1}.join(true)))
		out(t, "A asks", example.join(true))(h.Start(0, true))
		out(t, "A proves", example.prove())(h.Hear(0, example.joined()))
	}
	for _, side := range []int{1, -1, 3, -3, 255, 1<<32 + 1, math.MinInt + 1, math.MaxInt} {
		h := join.New(side, 1, 9, 7, 1)
		stands(t, "B", h, join.None, false)
		nothing(t, "B asks")(h.Start(0, true))
		out(t, "B answers", example.joined())(h.Hear(0, example.join(true)))
		nothing(t, "B hears")(h.Hear(0, example.prove()))
		stands(t, "B", h, join.Joined, true)
	}
}

// P11.1, 'Words': paths at the ends of their type; of the nonce's path the lowest byte counts, of the path that is 0 the whole number.
func TestPaths(t *testing.T) {
	for _, path := range []int{1, 7, 8, 127, 128, 254, 255, 256, 257, 511, 512, -1, -2, -255, -256, 1 << 32, math.MaxInt, math.MinInt} {
		p := pair{7, 9, path}
		a, b := p.halves(1)
		stands(t, "A", a, join.None, false)
		out(t, "JOIN", p.join(true))(a.Start(0, true))
		out(t, "JOINED", p.joined())(b.Hear(0, p.join(true)))
		out(t, "PROVE", p.prove())(a.Hear(0, p.joined()))
		nothing(t, "PROVE heard")(b.Hear(0, p.prove()))
		stands(t, "A", a, join.Joined, true)
		stands(t, "B", b, join.Joined, true)
	}
	if f, g := (pair{7, 9, 1}).join(true), (pair{7, 9, 257}).join(true); f.Nonce != g.Nonce {
		t.Errorf("nonces %x %x", f.Nonce, g.Nonce)
	}
}

// 'Words': keys at the ends of their type, one key for both sides, and keys of which one's bytes are not the other's.
func TestKeys(t *testing.T) {
	for _, k := range [][2]uint64{{0, 0}, {0, 1}, {1, 0}, {7, 7}, {math.MaxUint64, 0}, {math.MaxUint64, math.MaxUint64}, {1 << 63, 1 << 32}, {1<<32 - 1, 1 << 31}, {0x0102030405060708, 0x8877665544332211}} {
		for _, path := range []int{1, 7} {
			p := pair{k[0], k[1], path}
			a, b := p.halves(3)
			out(t, "JOIN", p.join(false))(a.Start(0, false))
			out(t, "JOINED", p.joined())(b.Hear(0, p.join(false)))
			out(t, "PROVE", p.prove())(a.Hear(0, p.joined()))
			nothing(t, "PROVE heard")(b.Hear(0, p.prove()))
			stands(t, "A", a, join.Joined, false)
			stands(t, "B", b, join.Joined, false)
		}
	}
}

// P11.1, P11.4: so many tries are made again, with times that double up to MaxRto; below, at and above each time; by both sides.
func TestRetries(t *testing.T) {
	waits := []uint64{1000, 2000, 4000, 8000, 16000, 32000, 60000, 60000, 60000, 60000, 60000, 60000, 60000, 60000, 60000, 60000, 60000}
	for _, c := range []struct{ retries, want int }{
		{math.MinInt, 1}, {-16, 1}, {-1, 1}, {0, 1}, {1, 1}, {2, 2}, {5, 5}, {6, 6}, {7, 7}, {15, 15}, {16, 16}, {17, 16}, {256, 16}, {1 << 32, 16}, {math.MaxInt, 16},
	} {
		for _, late := range []uint64{0, 1, 70000, 1 << 40} {
			for side := range 2 {
				a, b := example.halves(c.retries)
				now := uint64(5)
				h, again := a, example.join(true)
				h.Start(now, true)
				if side == api.SideB {
					h, again = b, example.joined()
					h.Hear(now, example.join(true))
				}
				for i := range c.want {
					nothing(t, "ahead of the mark")(h.Tick(now - 1))
					nothing(t, "at the mark")(h.Tick(now))
					nothing(t, "one below")(h.Tick(now + waits[i] - 1))
					now += waits[i] + late
					out(t, "at or above", again)(h.Tick(now))
					nothing(t, "a second time")(h.Tick(now))
					stands(t, "again", h, join.Asked+side, true)
				}
				nothing(t, "one below the last")(h.Tick(now + waits[c.want] - 1))
				stands(t, "one below the last", h, join.Asked+side, true)
				nothing(t, "the last")(h.Tick(now + waits[c.want] + late))
				stands(t, "the last", h, join.None, true)
				nothing(t, "behind the last")(h.Tick(math.MaxUint64))
				stands(t, "behind the last", h, join.None, true)
			}
		}
	}
}

// P11.2, P11.4: marks and times at the ends of their type.
func TestEndsOfTime(t *testing.T) {
	const end = math.MaxUint64
	for _, c := range []struct {
		mark, now uint64
		out       bool
	}{
		{0, 0, false}, {0, 999, false}, {0, 1000, true}, {0, end, true}, {0, 1 << 63, true},
		{1, 0, false}, {1, 1000, false}, {1, 1001, true},
		{end, end, false}, {end, 0, false}, {end, 999, false}, {end, 1000, false}, {end, end - 1000, false}, {end, end - 1001, false},
		{end - 999, end, false}, {end - 1000, end - 1, false}, {end - 1000, end, true}, {end - 1000, end - 1001, false}, {end - 1000, 0, false},
		{1 << 63, 0, false}, {1 << 63, 1<<63 - 1, false}, {1 << 63, 1<<63 + 999, false}, {1 << 63, 1<<63 + 1000, true}, {1 << 63, end, true},
		{1<<63 - 1, 1<<63 + 998, false}, {1<<63 - 1, 1<<63 + 999, true},
	} {
		a, b := example.halves(1)
		a.Start(c.mark, false)
		b.Hear(c.mark, example.join(false))
		if !c.out {
			nothing(t, "A")(a.Tick(c.now))
			nothing(t, "B")(b.Tick(c.now))
		} else {
			out(t, "A", example.join(false))(a.Tick(c.now))
			out(t, "B", example.joined())(b.Tick(c.now))
		}
		stands(t, "A", a, join.Asked, false)
		stands(t, "B", b, join.Answered, false)
	}
	a, _ := example.halves(1)
	a.Start(0, false)
	a.Tick(end)
	for _, now := range []uint64{0, 1999, 2000, 60000, end - 1, end} {
		nothing(t, "no time is behind the last one")(a.Tick(now))
	}
	stands(t, "A", a, join.Asked, false)
}

// P11.2: Start at both sides in each state, and again behind None.
func TestStart(t *testing.T) {
	everyState(t, example, func(side, state int, h *join.Half) {
		before := h.Backup()
		for _, backup := range []bool{false, true} {
			if side == api.SideA && state == join.None {
				out(t, "Start", example.join(backup))(h.Start(9, backup))
				stands(t, "Start", h, join.Asked, backup)
				nothing(t, "its mark is 9")(h.Tick(1008))
				out(t, "no try was made again", example.join(backup))(h.Tick(1009))
				nothing(t, "the last try")(h.Tick(3009))
				stands(t, "the last try", h, join.None, backup)
				continue
			}
			nothing(t, "Start")(h.Start(9, backup))
			stands(t, "Start", h, state, before)
		}
	})
}

// P11.3: each kind of frame at both sides in each state; right ones, and beside these all that a frame of the other kinds may have.
func TestHear(t *testing.T) {
	p := example
	for kind := range api.NumKinds + 2 {
		f := api.Frame{Kind: kind, Path: 1, Num: 3, Off: 4, Edge: 5, Data: []byte("x"), Ranges: []api.Range{{Lo: 1, Hi: 2}}, Which: 1, Token: tokenOf(9), Nonce: nonceOf(9, 1), Mac: p.joined().Mac, Backup: false}
		if kind == api.KindJoin {
			f.Nonce = nonceOf(7, 1)
		}
		if kind == api.KindProve {
			f.Mac = p.prove().Mac
		}
		everyState(t, p, func(side, state int, h *join.Half) {
			before := h.Backup()
			switch {
			case kind == api.KindJoin && side == api.SideB && (state == join.None || state == join.Answered):
				out(t, "JOIN", p.joined())(h.Hear(7, f))
				stands(t, "JOIN", h, join.Answered, false)
			case kind == api.KindJoined && side == api.SideA && (state == join.Asked || state == join.Joined):
				out(t, "JOINED", p.prove())(h.Hear(7, f))
				stands(t, "JOINED", h, join.Joined, before)
			case kind == api.KindProve && side == api.SideB && state == join.Answered:
				nothing(t, "PROVE")(h.Hear(7, f))
				stands(t, "PROVE", h, join.Joined, before)
			default:
				nothing(t, "all else")(h.Hear(7, f))
				stands(t, "all else", h, state, before)
			}
		})
	}
}

// P11.3: kinds that are none, at the ends of their type too.
func TestHearNoKind(t *testing.T) {
	for _, kind := range []int{math.MinInt, math.MinInt + 7, -1, -7, -8, -9, 12, 13, 256 + 7, 256 + 8, 1<<32 + 7, 1<<32 + 9, math.MaxInt} {
		everyState(t, example, func(side, state int, h *join.Half) {
			before := h.Backup()
			for _, f := range []api.Frame{example.join(false), example.joined(), example.prove()} {
				f.Kind = kind
				nothing(t, "no kind")(h.Hear(7, f))
			}
			stands(t, "no kind", h, state, before)
		})
	}
}

// P11.3: a frame of another path, even where all else of it is right.
func TestHearOtherPath(t *testing.T) {
	for _, path := range []int{0, 2, -1, 256 + 1, -255, 1<<32 + 1, math.MinInt, math.MaxInt, math.MinInt + 1} {
		everyState(t, example, func(side, state int, h *join.Half) {
			before := h.Backup()
			for _, f := range []api.Frame{example.join(false), example.joined(), example.prove()} {
				f.Path = path
				nothing(t, "another path")(h.Hear(7, f))
			}
			stands(t, "another path", h, state, before)
		})
	}
	// A handshake's frames on one path are none on another one, though the path that they tell is right.
	p, q := pair{7, 9, 1}, pair{7, 9, 2}
	a, b := q.halves(1)
	a.Start(0, false)
	b.Hear(0, q.join(false))
	f, g := p.joined(), p.prove()
	f.Path, g.Path = 2, 2
	nothing(t, "path 1's JOINED")(a.Hear(0, f))
	nothing(t, "path 1's PROVE")(b.Hear(0, g))
	stands(t, "A", a, join.Asked, false)
	stands(t, "B", b, join.Answered, false)
}

// P11.3: a JOIN with another token, in None and in Answered; nothing of it is kept.
func TestToken(t *testing.T) {
	right := tokenOf(9)
	tokens := []uint32{tokenOf(7), 0, math.MaxUint32, right + 1, right - 1, ^right}
	for i := range 32 {
		tokens = append(tokens, right^1<<i)
	}
	for _, token := range tokens {
		_, b := example.halves(1)
		for _, state := range []int{join.None, join.Answered} {
			f := example.join(state == join.None)
			f.Token, f.Nonce = token, 77
			nothing(t, "another token")(b.Hear(900, f))
			stands(t, "another token", b, state, false)
			if state == join.None {
				b.Hear(0, example.join(false))
			}
		}
		out(t, "the mark and the nonce stay", example.joined())(b.Tick(1000))
	}
}

// wrongMacs is what is not just this Mac.
func wrongMacs(whole []byte, n int) [][]byte {
	l := [][]byte{nil, {}, make([]byte, n), whole, append(bytes.Clone(whole), whole...)}
	for i := range 8 * n {
		m := bytes.Clone(whole[:n])
		m[i/8] ^= 1 << (i % 8)
		l = append(l, m)
	}
	for i := 1; i < 33; i++ {
		if i != n {
			l = append(l, whole[:i:i], append(make([]byte, 0, 64), whole[:i]...))
		}
	}
	return append(l, append(bytes.Clone(whole[:n]), 0), append([]byte{0}, whole[:n]...), whole[1:n+1])
}

// P11.3, P11.7: a Mac with one bit turned, shorter, longer, none; and the proofs with keys or nonces the other way round.
func TestMac(t *testing.T) {
	p := example
	na, nb := nonceOf(7, 1), nonceOf(9, 1)
	macs := wrongMacs(proofOf(9, 7, nb, na), 8)
	for _, s := range [][]byte{proofOf(7, 9, nb, na), proofOf(9, 7, na, nb), proofOf(7, 9, na, nb), proofOf(9, 9, nb, na), proofOf(9, 7, nb, nb)} {
		macs = append(macs, s[:8])
	}
	for _, state := range []int{join.Asked, join.Joined} {
		for _, m := range macs {
			h, f := p.at(api.SideA, state), p.joined()
			f.Mac = m
			nothing(t, "JOINED")(h.Hear(5, f))
			stands(t, "JOINED", h, state, true)
			out(t, "and then the right one", p.prove())(h.Hear(5, p.joined()))
		}
	}
	macs = wrongMacs(proofOf(7, 9, na, nb), 20)
	for _, s := range [][]byte{proofOf(9, 7, na, nb), proofOf(7, 9, nb, na), proofOf(9, 7, nb, na), proofOf(7, 7, na, nb), proofOf(7, 9, na, na)} {
		macs = append(macs, s[:20])
	}
	for _, m := range macs {
		h, f := p.at(api.SideB, join.Answered), p.prove()
		f.Mac = m
		nothing(t, "PROVE")(h.Hear(5, f))
		stands(t, "PROVE", h, join.Answered, true)
		nothing(t, "and then the right one")(h.Hear(5, p.prove()))
		stands(t, "and then the right one", h, join.Joined, true)
	}
}

// P11.3: any nonce of the peer's will do, if the proof is over it; the newest one counts.
func TestNonces(t *testing.T) {
	p := example
	a, b := p.halves(3)
	a.Start(0, false)
	f := p.joined()
	f.Nonce++
	nothing(t, "a nonce that was not proved")(a.Hear(0, f))
	stands(t, "A", a, join.Asked, false)
	nonces := []uint32{0, 1, math.MaxUint32, 1 << 31, 0x01020304, nonceOf(9, 1), nonceOf(7, 1)}
	for _, n := range nonces {
		out(t, "PROVE", p.proveTo(n))(a.Hear(0, p.joinedFrom(n)))
		stands(t, "A", a, join.Joined, false)
	}
	for i, n := range nonces {
		f := p.join(i%2 == 0)
		f.Nonce = n
		out(t, "JOINED", p.joinedTo(n))(b.Hear(uint64(i), f))
		stands(t, "B", b, join.Answered, i%2 == 0)
		if i > 0 {
			nothing(t, "the proof of an older nonce")(b.Hear(uint64(i), p.proveFrom(nonces[i-1])))
			stands(t, "B", b, join.Answered, i%2 == 0)
		}
		out(t, "as it was", p.joinedTo(n))(b.Tick(uint64(i) + 1000))
	}
	nothing(t, "the newest one")(b.Hear(9, p.proveFrom(nonces[len(nonces)-1])))
	stands(t, "B", b, join.Joined, true)
}

// P11.3: a JOIN that is heard again begins the tries anew, from then on, also from an earlier clock.
func TestJoinAgain(t *testing.T) {
	_, b := example.halves(2)
	out(t, "JOIN", example.joined())(b.Hear(0, example.join(true)))
	out(t, "first try", example.joined())(b.Tick(1000))
	out(t, "second try", example.joined())(b.Tick(3000))
	out(t, "JOIN again", example.joined())(b.Hear(4000, example.join(false)))
	stands(t, "B", b, join.Answered, false)
	nothing(t, "4999")(b.Tick(4999))
	out(t, "5000", example.joined())(b.Tick(5000))
	out(t, "JOIN at an earlier clock", example.joined())(b.Hear(100, example.join(false)))
	nothing(t, "1099")(b.Tick(1099))
	out(t, "1100", example.joined())(b.Tick(1100))
	out(t, "3100", example.joined())(b.Tick(3100))
	nothing(t, "7100")(b.Tick(7100))
	stands(t, "7100", b, join.None, false)
	nothing(t, "PROVE behind the last try")(b.Hear(7100, example.prove()))
	stands(t, "7100", b, join.None, false)
	out(t, "JOIN behind the last try", example.joined())(b.Hear(9000, example.join(true)))
	stands(t, "9000", b, join.Answered, true)
	nothing(t, "9999")(b.Tick(9999))
	out(t, "10000", example.joined())(b.Tick(10000))
}

// P11.4: frames that change nothing, and JOINED frames, leave A's mark and tries as they were; a Joined or Left path has no timer.
func TestTimerStays(t *testing.T) {
	a, b := example.halves(1)
	a.Start(0, true)
	b.Hear(0, example.join(true))
	wrong := example.joined()
	wrong.Mac[0] ^= 1
	a.Hear(900, wrong)
	a.Hear(900, example.join(false))
	a.Start(900, false)
	a.Leave()
	wrong = example.prove()
	wrong.Mac[0] ^= 1
	b.Hear(900, wrong)
	b.Hear(900, example.joined())
	b.Start(900, false)
	b.Leave()
	out(t, "A", example.join(true))(a.Tick(1000))
	out(t, "B", example.joined())(b.Tick(1000))
	everyState(t, example, func(side, state int, h *join.Half) {
		if state == join.Asked || state == join.Answered {
			return
		}
		before := h.Backup()
		for _, now := range []uint64{0, 1000, 2000, 60000, 1 << 62, math.MaxUint64} {
			nothing(t, "no timer")(h.Tick(now))
		}
		stands(t, "no timer", h, state, before)
	})
}

// P11.5: Leave in each state, and again; a path that is left stays so.
func TestLeave(t *testing.T) {
	everyState(t, example, func(side, state int, h *join.Half) {
		before := h.Backup()
		if h.Leave() != (state == join.Joined) {
			t.Errorf("side %d: Leave in the state %d", side, state)
		}
		if state != join.Joined {
			stands(t, "not joined", h, state, before)
		}
		if state != join.Joined && state != join.Left {
			return
		}
		for range 2 {
			stands(t, "left", h, join.Left, before)
			if h.Leave() {
				t.Error("left twice")
			}
			nothing(t, "Start")(h.Start(5, !before))
			for _, f := range []api.Frame{example.join(!before), example.joined(), example.prove()} {
				nothing(t, "Hear")(h.Hear(5, f))
			}
			nothing(t, "Tick")(h.Tick(math.MaxUint64))
		}
		stands(t, "left", h, join.Left, before)
	})
}

// P11.2, P11.5: Backup is what the last JOIN said that went out or was answered, also behind None.
func TestBackup(t *testing.T) {
	a, b := example.halves(1)
	for _, backup := range []bool{true, false, true, true} {
		out(t, "JOIN", example.join(backup))(a.Start(0, backup))
		b.Hear(0, example.join(backup))
		for _, now := range []uint64{1000, 3000} {
			stands(t, "A", a, join.Asked, backup)
			stands(t, "B", b, join.Answered, backup)
			a.Tick(now)
			b.Tick(now)
		}
		stands(t, "A", a, join.None, backup)
		stands(t, "B", b, join.None, backup)
	}
}

// The frames that go out are fit for wire, and come through it.
func TestOverWire(t *testing.T) {
	for path := 1; path < api.MaxPaths; path++ {
		p := pair{math.MaxUint64, 0, path}
		a, b := p.halves(1)
		through := func(f api.Frame, ok bool) api.Frame {
			t.Helper()
			b, e := wire.Encode(f)
			g, back := wire.Decode(b)
			if !ok || e != api.OK || back != api.OK || !same(f, g) {
				t.Errorf("%+v %v: %v, %+v %v", f, ok, e, g, back)
			}
			return g
		}
		f := through(a.Start(0, path%2 == 0))
		through(a.Tick(1000))
		f = through(b.Hear(0, f))
		through(b.Tick(1000))
		f = through(a.Hear(0, f))
		nothing(t, "PROVE heard")(b.Hear(0, f))
		stands(t, "A", a, join.Joined, path%2 == 0)
		stands(t, "B", b, join.Joined, path%2 == 0)
	}
}

// scribble writes over a Mac and its spare room.
func scribble(f api.Frame) {
	m := f.Mac[:cap(f.Mac)]
	for i := range m {
		m[i] ^= 0xff
	}
}

// Rule 0.4: what was handed out may be written to; what goes out again is as it was, in memory of its own.
func TestHandedOut(t *testing.T) {
	a, b := example.halves(16)
	answer, _ := b.Hear(0, example.join(true))
	scribble(answer)
	now := uint64(0)
	var kept []api.Frame
	for range 16 {
		now += 60000
		f, ok := b.Tick(now)
		out(t, "JOINED again", example.joined())(f, ok)
		kept = append(kept, f)
		g, _ := b.Tick(now + 60000)
		now += 60000
		scribble(g)
		out(t, "JOIN again", example.joined())(b.Hear(now, example.join(true)))
	}
	a.Start(0, true)
	first, _ := a.Hear(0, example.joined())
	scribble(first)
	for range 3 {
		f, ok := a.Hear(0, example.joined())
		out(t, "PROVE again", example.prove())(f, ok)
		g, _ := a.Hear(0, example.joined())
		scribble(g)
		out(t, "another one was written to", example.prove())(f, true)
	}
	for _, f := range kept {
		out(t, "others were written to", example.joined())(f, true)
	}
	nothing(t, "PROVE heard")(b.Hear(now, example.prove()))
	stands(t, "B", b, join.Joined, true)
}

// Rule 0.4: what is handed in is not changed, its spare room neither, and not kept.
func TestHandedIn(t *testing.T) {
	everyState(t, example, func(side, state int, h *join.Half) {
		for _, f := range []api.Frame{example.join(true), example.joined(), example.prove()} {
			room := append(append(make([]byte, 0, 64), f.Mac...), "what lies behind it"...)
			data, ranges := []byte("abc"), []api.Range{{Lo: 1, Hi: 2}, {Lo: 5, Hi: 6}}
			before := bytes.Clone(room)
			f.Mac, f.Data, f.Ranges = room[:len(f.Mac)], data[:1], ranges[:1]
			g, ok := h.Hear(0, f)
			if !bytes.Equal(room, before) || string(data) != "abc" || !reflect.DeepEqual(ranges, []api.Range{{Lo: 1, Hi: 2}, {Lo: 5, Hi: 6}}) {
				t.Errorf("kind %d was changed", f.Kind)
			}
			given := bytes.Clone(g.Mac)
			clear(room)
			if !bytes.Equal(g.Mac, given) {
				t.Errorf("kind %d: the answer shares its memory", f.Kind)
			}
			if ok && g.Kind == api.KindJoined {
				out(t, "nothing of it was kept", example.joined())(h.Tick(1000))
			}
		}
	})
}

// Rule 0.3: two Halves know nothing of one another.
func TestApart(t *testing.T) {
	a, b := example.halves(1)
	c, d := example.halves(1)
	a.Start(0, true)
	b.Hear(0, example.join(true))
	a.Hear(0, example.joined())
	a.Leave()
	b.Hear(0, example.prove())
	stands(t, "another A", c, join.None, false)
	stands(t, "another B", d, join.None, false)
	out(t, "another A", example.join(false))(c.Start(0, false))
	nothing(t, "another B")(d.Hear(0, example.prove()))
	out(t, "another A's tries", example.join(false))(c.Tick(1000))
	stands(t, "A", a, join.Left, true)
	stands(t, "B", b, join.Joined, true)
}
