package transfer_test

import (
	"bytes"
	"math"
	"reflect"
	"slices"
	"testing"

	"braid/api"
	"braid/journal"
)

// spare is bytes with room behind them that is full of x.
func spare(s string, x byte) []byte {
	return append([]byte(s), bytes.Repeat([]byte{x}, 40)...)[:len(s)]
}

func whole(b []byte) []byte { return b[:cap(b)] }

func overwrite[T any](l []T, x T) {
	l = l[:cap(l)]
	for i := range l {
		l[i] = x
	}
}

// 0.4: what is handed to Offer is neither changed nor kept.
func TestOfferedBytes(t *testing.T) {
	x := fileOf("x", letters(100), 30)
	p := facing(t, wide(), nil)
	b := spare(x.data, 0xee)
	kept := slices.Clone(whole(b))
	if e := p.x.Offer("x", b, 30); e != api.OK || !bytes.Equal(whole(b), kept) {
		t.Errorf("Offer: %d, or it has changed what was handed in", e)
	}
	overwrite(b, 0x55)
	p.told(p.ask(requestM("x")), x.answer())
	p.told(p.ask(x.ask(0, 4)), x.parts(0, 1, 2, 3))
	if whole(b)[0] != 0x55 {
		t.Error("it is written into")
	}
}

// 0.4: what is handed to Feed is neither changed nor kept, whatever of it waits to be gone through.
func TestFedBytes(t *testing.T) {
	x := fileOf("x", letters(100), 30)
	log, _ := newLog(t, 2000)
	p := facing(t, wide(), log)
	p.offer("y", "abc", 1, api.OK)
	feed := func(size int) {
		out := p.m.Out(math.MaxInt)
		for part := range slices.Chunk(out, size) {
			b := spare(string(part), 0xee)
			kept := slices.Clone(whole(b))
			if e := p.x.Feed(b); e != api.OK || !bytes.Equal(whole(b), kept) {
				t.Errorf("Feed: %d, or it has changed what was handed in", e)
			}
			overwrite(b, 0x55)
		}
	}
	p.fetch("x", 0, 1, 1, api.OK)
	p.asked(1, requestM("x"))
	p.m.Write(1, []byte(x.answer()))
	p.m.Close(1)
	feed(7)
	p.asked(3, x.ask(0, 2))
	p.m.Write(3, []byte(x.parts(0, 1)))
	p.m.Close(3)
	feed(11)
	p.asked(5, x.ask(2, 4))
	p.m.Write(5, []byte(x.parts(2, 3)))
	p.m.Close(5)
	id := p.open()
	p.m.Write(id, []byte(requestM("y")))
	p.m.Close(id)
	feed(math.MaxInt)
	p.data(1, x.data, api.OK)
	p.pass()
	p.told(id, fileOf("y", "abc", 1).answer())
	recorded(t, log, kind(1, recordM(x)), kind(2, recordP(x, 0)), kind(2, recordP(x, 1)), kind(2, recordP(x, 2)), kind(2, recordP(x, 3)))
}

// 0.4: what Data, Out and Stat give is new memory, spare room too.
func TestHandedOut(t *testing.T) {
	x := fileOf("x", letters(100), 30)
	log, _ := newLog(t, 2000)
	p := facing(t, wide(), log)
	p.offer("y", "abc", 1, api.OK)
	p.offer("z", "abcd", 1, api.OK)
	for i, name := range []string{"x", "q", "r"} {
		p.fetch(name, 0, 1, i+1, api.OK)
	}
	var all []byte
	for range 100 {
		b := p.x.Out(3)
		all = append(all, b...)
		overwrite(b, 0x55)
	}
	if want := []byte("\x01\x01\x00\x01\x01\x03\x00\x01\x01\x05\x00\x01\x02\x01\x03M\x01x\x04\x01\x02\x03\x03M\x01q\x04\x03\x02\x05\x03M\x01r\x04\x05"); !bytes.Equal(all, want) {
		t.Errorf("there went out %q, want %q", all, want)
	}
	p.m.Feed(all)
	p.asked(1, requestM("x"))
	p.answers(1, x.answer())
	p.asked(3, requestM("q"))
	p.asked(5, requestM("r"))
	p.asked(7, x.ask(0, 2))
	p.answers(7, x.parts(0, 1))
	p.asked(9, x.ask(2, 4))
	p.answers(9, x.parts(2, 3))
	for range 2 {
		b, e := p.x.Data(1)
		if string(b) != x.data || e != api.OK {
			t.Errorf("Data: %q, %d", b, e)
		}
		overwrite(b, 0x66)
	}
	before, again := p.x.Stat(), p.x.Stat()
	overwrite(again.Offers, api.Manifest{Name: "?"})
	overwrite(again.Fetches, api.FetchView{Name: "?"})
	overwrite(again.Mux.Streams, api.MuxView{Stream: 99})
	if after := p.x.Stat(); !reflect.DeepEqual(before, after) {
		t.Errorf("%+v became %+v", before, after)
	}
	p.withdraw("y", api.OK)
	p.cancel(2, api.OK)
	if before.Offers[0].Name != "y" || before.Fetches[1].State != asking || len(before.Mux.Streams) != 2 {
		t.Errorf("a look has changed: %+v", before)
	}
	for _, r := range log.Records() {
		overwrite(r.Body, 0x77)
	}
	knows(t, log, x, 0, 1, 2, 3)
}

// 0.4: an answer that is under way is not changed by what becomes of that which was handed out.
func TestGivenStays(t *testing.T) {
	var got, kept [][]byte
	d := dice(4)
	p := join(t, small(), [2]*journal.Log{})
	p.x[1].offer("x", letters(3000), 100, api.OK)
	p.x[0].fetch("x", 0, 1, 1, api.OK)
	for range 300 {
		side := d.below(2)
		b := p.x[side].x.Out(1 + d.below(100))
		got, kept = append(got, b), append(kept, slices.Clone(b))
		p.x[1-side].feed(b, api.OK)
	}
	if !slices.EqualFunc(got, kept, bytes.Equal) {
		t.Error("what was handed out has changed")
	}
}

// 0.3: a Transfer knows nothing of another one.
func TestApart(t *testing.T) {
	run := func(beside bool) []byte {
		var all []byte
		d, e := dice(7), dice(8)
		x := newBoth(t, &d, 0, d.anyConfig())
		y := newBoth(t, &e, 1, e.anyConfig())
		for range 300 {
			d.call(x)
			if beside {
				e.call(y)
			}
			all = append(all, x.out(9)...)
			y.out(9)
		}
		return all
	}
	if !bytes.Equal(run(true), run(false)) {
		t.Error("another Transfer shows")
	}
}
