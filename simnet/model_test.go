package simnet_test

import (
	"bytes"
	"math/big"
	"slices"
	"testing"

	"braid/api"
	"braid/simnet"
)

// dice gives the same row of numbers in every run.
type dice uint64

func (d *dice) below(n int) int {
	*d = *d*6364136223846793005 + 1442695040888963407
	return int(uint64(*d) >> 33 % uint64(n))
}

// modelFrame is a frame as the chapter words it: its bytes, and those that Put was handed.
type modelFrame struct{ now, put string }

// modelPath is a path with lists of whole frames.
type modelPath struct {
	view api.NetView
	bags [2][]modelFrame
	ever [2][]string // every frame that was put into the bag
}

type model []*modelPath

// check is the first error of the table that applies, of those that the call asks for.
func (m model) check(path, dir, k int, askDown, askPlace bool) api.Errno {
	switch {
	case path < 0 || path >= len(m):
		return api.ErrNetPath
	case dir != 0 && dir != 1:
		return api.ErrNetDir
	case askDown && !m[path].view.Up:
		return api.ErrNetDown
	case askPlace && (k < 0 || k >= len(m[path].bags[dir])):
		return api.ErrNetPlace
	}
	return api.OK
}

func (m model) put(path, dir int, frame string) (bool, api.Errno) {
	if e := m.check(path, dir, 0, false, false); e != api.OK {
		return false, e
	}
	p := m[path]
	p.view.Put[dir]++
	if !p.view.Up || len(p.bags[dir]) == p.view.Cap {
		p.view.Lost[dir]++
		return false, api.OK
	}
	p.bags[dir] = append(p.bags[dir], modelFrame{frame, frame})
	p.ever[dir] = append(p.ever[dir], frame)
	return true, api.OK
}

func (m model) out(path, dir, k int) modelFrame {
	p := m[path]
	f := p.bags[dir][k]
	p.bags[dir] = slices.Concat(p.bags[dir][:k], p.bags[dir][k+1:])
	return f
}

func (m model) double(path, dir, k int) (bool, api.Errno) {
	if e := m.check(path, dir, k, true, true); e != api.OK {
		return false, e
	}
	p := m[path]
	if len(p.bags[dir]) == p.view.Cap {
		return false, api.OK
	}
	p.bags[dir] = append(p.bags[dir], p.bags[dir][k])
	p.view.Twice[dir]++
	return true, api.OK
}

func (m model) spoil(path, dir, k, at int, mask byte) api.Errno {
	if e := m.check(path, dir, k, false, true); e != api.OK {
		return e
	}
	f := &m[path].bags[dir][k]
	if at < 0 || at >= len(f.now) {
		return api.ErrNetByte
	}
	b := []byte(f.now)
	b[at] ^= mask
	f.now = string(b)
	return api.OK
}

// hold is true if a parcel is what the model says.
func hold(p api.Parcel, e api.Errno, f modelFrame, want api.Errno) bool {
	return e == want && string(p.Bytes) == f.now && p.Spoilt == (f.now != f.put) && (e == api.OK || p.Bytes == nil)
}

// step makes one call on both, and tells whether they answer the same.
func (m model) step(n *simnet.Net, d *dice) bool {
	path, dir, k := d.below(len(m)+2)-1, d.below(2), d.below(6)-1
	if d.below(20) == 0 {
		dir = d.below(5) - 2
	}
	switch d.below(10) {
	case 0, 1, 2:
		frame := []string{"", "a", "ab", "abc", "ba"}[d.below(5)]
		lies, e := n.Put(path, dir, []byte(frame))
		wantLies, want := m.put(path, dir, frame)
		return lies == wantLies && e == want
	case 3:
		p, e := n.Take(path, dir, k)
		want, f := m.check(path, dir, k, true, true), modelFrame{}
		if want == api.OK {
			f = m.out(path, dir, k)
			m[path].view.Taken[dir]++
		}
		return hold(p, e, f, want)
	case 4:
		e, want := n.Drop(path, dir, k), m.check(path, dir, k, false, true)
		if want == api.OK {
			m.out(path, dir, k)
			m[path].view.Gone[dir]++
		}
		return e == want
	case 5:
		lies, e := n.Double(path, dir, k)
		wantLies, want := m.double(path, dir, k)
		return lies == wantLies && e == want
	case 6, 7, 8:
		at, mask := d.below(5)-1, byte(d.below(4))
		return n.Spoil(path, dir, k, at, mask) == m.spoil(path, dir, k, at, mask)
	}
	up := d.below(3) > 0
	e, want := n.Set(path, up), m.check(path, 0, 0, false, false)
	if want == api.OK {
		m[path].view.Up = up
	}
	return e == want
}

// sameBags holds all that can be looked at against the model.
func (m model) sameBags(t *testing.T, n *simnet.Net) bool {
	t.Helper()
	for i, p := range m {
		v, e := n.Look(i)
		want := p.view
		want.Lying = [2]int{len(p.bags[0]), len(p.bags[1])}
		if v != want || e != api.OK {
			t.Errorf("Look(%d): %+v, not %+v", i, v, want)
			return false
		}
		for dir := range 2 {
			if !balanced(v, dir) {
				t.Errorf("path %d, direction %d: %+v", i, dir, v)
				return false
			}
			for k, f := range p.bags[dir] {
				got, e := n.Peek(i, dir, k)
				if !hold(got, e, f, api.OK) {
					t.Errorf("Peek(%d, %d, %d): %q %v, not %+v", i, dir, k, got.Bytes, got.Spoilt, f)
					return false
				}
				if !got.Spoilt && !slices.ContainsFunc(p.ever[dir], func(s string) bool { return bytes.Equal(got.Bytes, []byte(s)) }) {
					t.Errorf("Peek(%d, %d, %d): %q was never put there", i, dir, k, got.Bytes)
					return false
				}
			}
		}
	}
	return true
}

// balanced: what came into a bag is what left it and what lies there, and Lying is at most Cap.
func balanced(v api.NetView, dir int) bool {
	in, out := new(big.Int), big.NewInt(int64(v.Lying[dir]))
	for _, x := range []uint64{v.Put[dir], v.Twice[dir]} {
		in.Add(in, new(big.Int).SetUint64(x))
	}
	for _, x := range []uint64{v.Lost[dir], v.Taken[dir], v.Gone[dir]} {
		out.Add(out, new(big.Int).SetUint64(x))
	}
	return in.Cmp(out) == 0 && v.Lying[dir] >= 0 && v.Lying[dir] <= v.Cap
}

// P4.2 to P4.9: behind every one of many calls, right and wrong ones, all bags and counts are those of the plain model.
func TestAgainstModel(t *testing.T) {
	games := 400
	if testing.Short() {
		games = 40
	}
	for seed := range games {
		d := dice(seed)
		caps := make([]int, 1+d.below(3))
		for i := range caps {
			caps[i] = 1 + d.below(5)
		}
		n := open(t, caps...)
		m := make(model, len(caps))
		for i := range m {
			m[i] = &modelPath{view: api.NetView{Up: true, Cap: caps[i]}}
		}
		for i := range 300 {
			if !m.step(n, &d) || !m.sameBags(t, n) {
				t.Fatalf("game %d: call %d is answered otherwise", seed, i)
			}
		}
	}
}
