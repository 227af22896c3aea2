package mux_test

import (
	"bytes"
	"slices"
	"testing"

	"braid/api"
)

// spare is b with room behind it that is full of x.
func spare(b []byte, x byte) []byte {
	return append(slices.Clone(b), bytes.Repeat([]byte{x}, 40)...)[:len(b)]
}

func whole(b []byte) []byte { return b[:cap(b)] }

func overwrite[T any](l []T, x T) {
	l = l[:cap(l)]
	for i := range l {
		l[i] = x
	}
}

// 0.4: bytes that are handed in are neither changed nor kept, whatever is called behind.
func TestHandedIn(t *testing.T) {
	a, b := begin(t, 0, wide()), begin(t, 1, wide())
	a.open(0, 1, 1, api.OK)
	for _, text := range []string{"abcdef", "ghi", "jklmnop"} {
		p := spare([]byte(text), 0xee)
		kept := slices.Clone(whole(p))
		a.m.Write(1, p)
		if !bytes.Equal(whole(p), kept) {
			t.Error("Write has changed what was handed in")
		}
		overwrite(p, 0x55)
	}
	out := spare(a.m.Out(1000), 0xee)
	for i := range out {
		p := spare(out[i:i+1], 0xee)
		kept := slices.Clone(whole(p))
		if e := b.m.Feed(p); e != api.OK || !bytes.Equal(whole(p), kept) {
			t.Errorf("Feed: %d, or it has changed what was handed in", e)
		}
		overwrite(p, 0x66)
	}
	b.read(1, 100, "abcdefghijklmnop")

	b = begin(t, 1, wide())
	p := spare(out, 0xee)
	kept := slices.Clone(whole(p))
	b.m.Feed(p)
	b.read(1, 3, "abc")
	b.skip()
	if !bytes.Equal(whole(p), kept) {
		t.Error("Feed has changed what was handed in")
	}
	overwrite(p, 0x77)
	b.read(1, 100, "defghijklmnop")
}

// 0.4: bytes and lists that are handed out are new memory, spare room too.
func TestHandedOut(t *testing.T) {
	a, b := begin(t, 0, wide()), begin(t, 1, wide())
	a.open(0, 1, 1, api.OK)
	a.write(1, "abcdefghijklmnopqrstuvwxyz", 26, api.OK)
	var all []byte
	for range 20 {
		p := a.m.Out(3)
		all = append(all, p...)
		overwrite(p, 0x55)
	}
	b.m.Feed(all)
	var text []byte
	for range 9 {
		p, _, _ := b.m.Read(1, 3)
		text = append(text, p...)
		overwrite(p, 0x66)
	}
	if string(text) != "abcdefghijklmnopqrstuvwxyz" {
		t.Errorf("%q", text)
	}

	a.hears(pong(1), pong(2), pong(3))
	overwrite(a.m.Pongs(), 9)
	a.hears(pong(4), pong(5))
	first := a.m.Pongs()
	a.hears(pong(6))
	if !slices.Equal(first, []uint64{4, 5}) {
		t.Errorf("%d", first)
	}
	a.pongs(6)

	a.open(2, 3, 3, api.OK)
	before := a.m.Stat()
	overwrite(a.m.Stat().Streams, api.MuxView{Stream: 99, Deaf: true})
	if !sameStat(before, a.m.Stat()) {
		t.Errorf("%+v became %+v", before, a.m.Stat())
	}
	a.hears(stop(3, 4))
	if before.Streams[1] != (api.MuxView{Stream: 3, Class: 2, Share: 3}) {
		t.Errorf("%+v", before.Streams)
	}
}

// 0.4: what Out and Read gave stays as it is, whatever comes behind it.
func TestGivenStays(t *testing.T) {
	a, b := begin(t, 0, wide()), begin(t, 1, wide())
	a.open(0, 1, 1, api.OK)
	var got, kept [][]byte
	d := dice(4)
	for range 200 {
		a.m.Write(1, d.text(d.below(30)))
		p := a.m.Out(1 + d.below(40))
		b.m.Feed(p)
		q, _, _ := b.m.Read(1, d.below(40))
		got = append(got, p, q)
		kept = append(kept, slices.Clone(p), slices.Clone(q))
	}
	if !slices.EqualFunc(got, kept, bytes.Equal) {
		t.Error("what was handed out has changed")
	}
}

// 0.3: a mux knows nothing of another one: its answers are the same while others are at work.
func TestApart(t *testing.T) {
	run := func(beside bool) []byte {
		var all []byte
		d, e := dice(7), dice(8)
		x := newBoth(t, 0, d.anyConfig())
		y := newBoth(t, 1, e.anyConfig())
		for range 300 {
			d.call(x)
			if beside {
				e.call(y)
			}
			all = append(all, x.m.Out(5)...)
			x.b.out(5)
		}
		return all
	}
	if !bytes.Equal(run(true), run(false)) {
		t.Error("another mux shows")
	}
}
