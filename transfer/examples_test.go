package transfer_test

import (
	"bytes"
	"encoding/hex"
	"testing"

	"braid/api"
	"braid/journal"
)

// unhex is bytes told as digits; blanks are nothing.
func unhex(t *testing.T, s string) []byte {
	t.Helper()
	b, e := hex.DecodeString(string(bytes.ReplaceAll([]byte(s), []byte(" "), nil)))
	if e != nil {
		t.Fatal(e)
	}
	return b
}

// The chapter's examples 1 to 5.
func TestExample(t *testing.T) {
	log, _ := newLog(t, 1000)
	x, y := begin(t, 0, small(), log), begin(t, 1, small(), nil)
	f := fileOf("x", "abcdefg", 3)
	root := f.root()
	y.offer("x", "abcdefg", 3, api.OK)
	x.fetch("x", 2, 5, 1, api.OK)

	// 1.
	p := x.x.Out(1000)
	if want := unhex(t, "01 01 02 05 02 01 03 4d 01 78 04 01"); !bytes.Equal(p, want) {
		t.Errorf("%x, want %x", p, want)
	}
	y.feed(p, api.OK)
	q := y.x.Out(1000)
	if want := append(unhex(t, "02 01 32 59 00 32 42 52 50 31 01 78 00000007 00000003"), root[:]...); len(q) != 53 || !bytes.HasPrefix(q, want) {
		t.Errorf("%x, want %x", q, want)
	}
	x.feed(q, api.OK)
	y.feed(x.x.Out(1000), api.OK)
	x.feed(y.x.Out(1000), api.OK)
	x.stands(1, getting, 0, 2, 3)

	// 2.
	var sent []api.MuxFrame
	for range 20 {
		p := x.x.Out(1000)
		sent = append(sent, frames(t, p)...)
		y.feed(p, api.OK)
		x.feed(y.x.Out(1000), api.OK)
	}
	on := func(id uint64) string {
		var b []byte
		for _, f := range sent {
			if f.Kind == api.MuxBytes && f.Stream == id {
				b = append(b, f.Data...)
			}
		}
		return string(b)
	}
	if got, want := on(3), "P\x01x"+string(root[:])+"\x00\x01\x00\x00\x00\x00\x00\x00\x00\x02"; got != want || root[0] != 0x2d || root[3] != 0xf5 {
		t.Errorf("%x, want %x", got, want)
	}
	// 3.
	if got, want := on(5), "P\x01x"+string(root[:])+"\x00\x01\x00\x00\x00\x02\x00\x00\x00\x03"; got != want {
		t.Errorf("%x, want %x", got, want)
	}
	x.stands(1, done, 3, 3, 0)
	x.data(1, "abcdefg", api.OK)

	// 4.
	recorded(t, log, kind(1, recordM(f)), kind(2, recordP(f, 0)), kind(2, recordP(f, 1)), kind(2, recordP(f, 2)))
	if b := log.Records()[1].Body; string(b) != "\x01x"+string(root[:])+"\x00\x00\x00\x00abc" {
		t.Errorf("%x", b)
	}

	// 5.
	x = begin(t, 0, small(), log)
	x.fetch("x", 0, 1, 1, api.OK)
	x.stands(1, done, 3, 0, 0)
	x.data(1, "abcdefg", api.OK)
	if b := x.x.Out(1000); len(b) > 0 {
		t.Errorf("%x goes out", b)
	}
}

// The answer of the chapter's example 2.
func TestExampleAnswer(t *testing.T) {
	f := fileOf("x", "abcdefg", 3)
	p := offering(t, wide(), f)
	abc, def, g := f.leaves[0], f.leaves[1], f.leaves[2]
	want := bytes.Join([][]byte{unhex(t, "59 00000000 02"), def, g, []byte("abc"), unhex(t, "00000001 02"), abc, g, []byte("def")}, nil)
	p.told(p.ask("P\x01x"+string(unhex(t, "2de745f5"))+string(f.sum[4:])+string(unhex(t, "0001 00000000 00000002"))), string(want))
}

// The chapter's example 6.
func TestExampleErrors(t *testing.T) {
	d := dice(1)
	p := join(t, small(), [2]*journal.Log{})
	x := p.x[0]
	x.fetch("none", 0, 1, 1, api.OK)
	p.quiet(&d)
	x.stands(1, missing, 0, 1, 0)
	x.data(1, "", stateErr)
	x.again(1, api.OK)
	x.stands(1, asking, 0, 2, 3)
	x.fetch("none", 0, 1, 0, sameErr)
	x.fetch("a/b", 0, 1, 0, nameErr)
	x.fetch("q", 8, 1, 0, classErr)
	x.cancel(9, noFetchErr)
}

// DOC.md's example 8 of the whole, as far as it is about Transfers.
func TestExampleOfTheWhole(t *testing.T) {
	c := config(rooms(4096, 1024, 8), 2048, 16)
	c.Mux.Quantum = 256
	log, disk := newLog(t, 4000)
	p := join(t, c, [2]*journal.Log{log, nil})
	pump := func(n int) (int, int) {
		x, y := 0, 0
		for range n {
			a := p.x[0].x.Out(256)
			p.x[1].feed(a, api.OK)
			b := p.x[1].x.Out(256)
			p.x[0].feed(b, api.OK)
			x, y = x+len(a), y+len(b)
		}
		return x, y
	}
	p.x[1].offer("x", "abcdefg", 3, api.OK)
	p.x[0].fetch("x", 2, 5, 1, api.OK)
	if x, y := pump(3); x != 66 || y != 247 {
		t.Errorf("moved %d %d", x, y)
	}
	p.x[0].stands(1, done, 3, 2, 0)
	if x, y := pump(9); x != 0 || y != 0 {
		t.Errorf("moved %d %d", x, y)
	}
	p.x[0].sync(api.OK)
	disk.Crash(0, 0)
	log, _ = journal.Open(disk)
	again := begin(t, 0, c, log)
	again.fetch("x", 2, 5, 1, api.OK)
	again.data(1, "abcdefg", api.OK)
	p.x[1].fetch("nope", 0, 1, 1, api.OK)
	if x, y := pump(9); x != 6 || y != 15 {
		t.Errorf("moved %d %d", x, y)
	}
	p.x[1].stands(1, missing, 0, 1, 0)
}
