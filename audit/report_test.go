package audit_test

import (
	"fmt"
	"strings"
	"testing"

	"braid/api"
)

// path awaits what a side's frames on a path came to.
func (d *desk) path(side, path int, want api.PathReport) {
	d.t.Helper()
	if got := d.closes().Paths[side][path]; got != want {
		d.t.Errorf("%s: side %d, path %d\n%+v\nwant\n%+v", d.name, side, path, got, want)
	}
}

// stream awaits what a side's stream came to: its bytes, and how far High is from its first offset.
func (d *desk) stream(side int, text string, high uint64, chunks int, ends bool) {
	d.t.Helper()
	got := d.closes().Streams[side]
	if string(got.Bytes) != text || got.High != d.off(side, high) || got.Chunks != chunks || got.Ends != ends {
		d.t.Errorf("%s: side %d\n%s\nwant %q, %d, %d, %v", d.name, side, told(got), text, d.off(side, high), chunks, ends)
	}
}

// elsewhere awaits that nothing was counted but of one side and path.
func (d *desk) elsewhere(side, path int) {
	d.t.Helper()
	r := d.closes()
	for s := range 2 {
		for p := range d.c.Paths {
			if (s != side || p != path) && r.Paths[s][p] != (api.PathReport{}) {
				d.t.Errorf("%s: side %d, path %d: %+v", d.name, s, p, r.Paths[s][p])
			}
		}
	}
}

// P26.5: what became of frames is counted by who has sent them, whether they can be read or not.
func TestCounts(t *testing.T) {
	each(t, all(), func(d *desk, side, path int) {
		f := on(path, prio())
		if d.c.Sched == api.Single {
			f = on(path, dack(d.off(1-side, 0), d.off(1-side, 12)))
		}
		d.fine(sent(side, f))
		want := api.PathReport{Sent: 1}
		for what, count := range []*int{1: &want.Sent, 2: &want.Lost, 3: &want.Heard, 4: &want.Dropped, 5: &want.Doubled, 6: &want.Spoilt} {
			for range what {
				d.fine(event(what, side, f))
				*count++
			}
		}
		d.path(side, path, want)
		for what, count := range []*int{1: &want.Sent, 2: &want.Lost, 3: &want.Heard, 4: &want.Dropped, 5: &want.Doubled, 6: &want.Spoilt} {
			for k := range what {
				e := raw(what, side, path, []string{"", "x", string(coded(on(1-path, prio())))}[k%3])
				if what == api.EventSent || what == api.EventLost {
					d.shows(e, form)
				} else {
					d.fine(e)
				}
				*count++
			}
		}
		want.Unread = 3
		d.path(side, path, want)
		d.elsewhere(side, path)
		if r := d.closes(); r.Events != 43 || r.Foreign != 0 {
			t.Errorf("%s: %d events, %d foreign", d.name, r.Events, r.Foreign)
		}
	})
}

// P26.5: DATA, those with a chunk that was sent before, on any path, and their bytes; what found no place counts too.
func TestDataCounts(t *testing.T) {
	each(t, all(), func(d *desk, side, path int) {
		d.fine(sent(side, d.piece(side, path, 0, "abcd")))
		d.fine(lost(side, d.piece(side, path, 4, "ef")))
		d.fine(sent(side, d.ending(side, path, 6)))
		d.fine(sent(side, d.ending(side, path, 6)))
		d.fine(sent(side, d.asking(side, path)))
		d.path(side, path, api.PathReport{Sent: 4, Lost: 1, Data: 2, Bytes: 6})
		d.fine(sent(side, d.piece(side, 1-path, 0, "abcd")))
		d.fine(lost(side, d.piece(side, path, 4, "ef")))
		d.shows(sent(side, d.piece(side, path, 4, "fe")), says)
		d.shows(sent(side, d.piece(side, path, 4, "e")), cut)
		d.shows(sent(side, d.piece(side, path, 5, "f")), cut)
		d.path(side, path, api.PathReport{Sent: 7, Lost: 2, Data: 6, Again: 2, Bytes: 12})
		d.path(side, 1-path, api.PathReport{Sent: 1, Data: 1, Again: 1, Bytes: 4})
		d.fine(sent(1-side, d.piece(1-side, path, 0, "abcd")))
		d.path(1-side, path, api.PathReport{Sent: 1, Data: 1, Bytes: 4})
		x := d.piece(side, path, 0, "abcd")
		d.fine(event(api.EventDropped, side, x), event(api.EventDoubled, side, x), event(api.EventSpoilt, side, x))
		d.shows(raw(api.EventSent, side, path, string(coded(x))+"x"), form)
		d.path(side, path, api.PathReport{Sent: 8, Lost: 2, Dropped: 1, Doubled: 1, Spoilt: 1, Data: 6, Again: 2, Bytes: 12})
	})
}

// hears lets what a side has sent be heard, and the answer be sent that is owed then.
func (d *desk) hears(side int, f api.Frame) {
	d.t.Helper()
	d.fine(heard(side, f))
	d.answers(1-side, f)
}

// P26.5: numbers that were heard behind a greater one, and again.
func TestTurns(t *testing.T) {
	each(t, many(), func(d *desk, side, path int) {
		l := []api.Frame{}
		for k := range 9 {
			f := d.asking(side, path)
			switch k % 3 {
			case 1:
				f = d.piece(side, path, 0, "ab")
			case 2:
				f = d.ending(side, path, 2)
			}
			d.fine(sent(side, f))
			l = append(l, f)
		}
		late, twice := 0, 0
		for _, x := range []struct{ num, late, twice int }{
			{1, 0, 0}, {1, 0, 1}, {0, 1, 0}, {0, 0, 1}, {4, 0, 0}, {3, 1, 0}, {3, 0, 1}, {4, 0, 1}, {1, 0, 1}, {5, 0, 0}, {8, 0, 0}, {7, 1, 0}, {6, 1, 0}, {2, 1, 0}, {2, 0, 1}, {8, 0, 1},
		} {
			d.hears(side, l[x.num])
			late, twice = late+x.late, twice+x.twice
			if r := d.closes().Paths[side][path]; r.Late != late || r.Twice != twice {
				t.Errorf("%s: behind %d: %d late, %d twice, want %d, %d", d.name, x.num, r.Late, r.Twice, late, twice)
			}
		}
		if r := d.closes(); r.Paths[side][1-path].Late+r.Paths[1-side][path].Late+r.Paths[1-side][1-path].Late != 0 {
			t.Errorf("%s: %s", d.name, told(r))
		}
	})
	each(t, many(), func(d *desk, side, path int) { // each path and side has numbers of its own
		for _, s := range []int{0, 1} {
			for _, p := range []int{0, 1} {
				d.fine(sent(s, on(p, probe(0))), sent(s, on(p, probe(1))))
			}
		}
		d.hears(side, on(path, probe(1)))
		d.hears(side, on(1-path, probe(0)))
		d.hears(1-side, on(path, probe(0)))
		d.hears(1-side, on(1-path, probe(0)))
		d.inTurn()
		d.hears(side, on(path, probe(0)))
		if r := d.closes().Paths[side][path]; r.Late != 1 || r.Twice != 0 {
			t.Errorf("%s: %+v", d.name, r)
		}
	})
}

// inTurn awaits that no number was heard late or again.
func (d *desk) inTurn() {
	d.t.Helper()
	for _, l := range d.closes().Paths {
		for _, p := range l {
			if p.Late != 0 || p.Twice != 0 {
				d.t.Errorf("%s: %+v", d.name, p)
			}
		}
	}
}

// P26.5: of a single path a number that comes again was heard twice, whatever bore it.
func TestTurnsSingle(t *testing.T) {
	each(t, []int{api.Single}, func(d *desk, side, path int) {
		a, b, c := d.piece(side, path, 0, "a"), on(path, data(1, d.off(side, 1), "b")), on(path, fin(2, d.off(side, 2)))
		d.fine(sent(side, a), sent(side, b), sent(side, c), sent(side, on(path, probe(0))))
		d.hears(side, b)
		d.hears(side, on(path, probe(0))) // late
		d.hears(side, a)                  // the number 0 again
		d.hears(side, c)
		d.hears(side, c)
		if r := d.closes().Paths[side][path]; r.Late != 1 || r.Twice != 2 {
			t.Errorf("%s: %+v", d.name, r)
		}
	})
}

// P26.5: times there and back, by the Clocks of who sends and hears the ACK.
func TestTimes(t *testing.T) {
	each(t, many(), func(d *desk, side, path int) {
		peer := 1 - side
		send := func(clock uint64) {
			t.Helper()
			f := d.asking(side, path)
			d.fine(at(clock, sent(side, f)))
			d.hears(side, f)
		}
		tells := func(clock uint64, bounds ...uint64) {
			t.Helper()
			f := on(path, ack(bounds...))
			d.fine(at(7777, sent(peer, f)), at(clock, heard(peer, f)))
		}
		times := func(n int, least, most, sum uint64) {
			t.Helper()
			r := d.closes().Paths[side][path]
			if r.Rtts != n || r.RttMin != least || r.RttMax != most || r.RttSum != sum {
				t.Errorf("%s: %+v, want %d, %d, %d, %d", d.name, r, n, least, most, sum)
			}
		}
		send(100)
		send(200)
		times(0, 0, 0, 0)
		tells(350, 0, 1)
		times(1, 250, 250, 250)
		tells(999, 0, 1) // nothing new
		times(1, 250, 250, 250)
		tells(230, 0, 2) // 1 alone is new
		times(2, 30, 250, 280)
		for k := range 6 {
			send(uint64(300 + 10*k)) // 2 .. 7
		}
		tells(1000, 4, 6) // 5 of 330
		times(3, 30, 670, 950)
		tells(1001, 2, 5) // 3 of 310
		times(4, 30, 691, 1641)
		tells(1002, 0, 6)
		times(4, 30, 691, 1641)
		tells(1, 2, 3, 6, 7) // 6 of 340, by a Clock that went back
		times(5, 0, 691, 1641)
		tells(350, 0, 8)
		times(6, 0, 691, 1641)
		send(5)
		send(500)
		d.fine(raw(api.EventHeard, peer, path, "x"), raw(api.EventHeard, peer, 1-path, string(coded(on(path, ack(0, 9))))))
		f := on(path, ack(8, 10))
		d.fine(sent(peer, f), at(900, event(api.EventDropped, peer, f)), at(900, event(api.EventSpoilt, peer, f)), at(900, event(api.EventDoubled, peer, f)))
		times(6, 0, 691, 1641)
		d.fine(at(600, heard(peer, f)), at(800, heard(peer, f)))
		times(7, 0, 691, 1741)
		r := d.closes()
		for _, x := range []api.PathReport{r.Paths[side][1-path], r.Paths[peer][path], r.Paths[peer][1-path]} {
			if x.Rtts != 0 || x.RttMin != 0 || x.RttMax != 0 || x.RttSum != 0 {
				t.Errorf("%s: %+v", d.name, x)
			}
		}
	})
}

// P26.5: the first time may be the least and the greatest, and of 0; a number is one of one path.
func TestTimesEdges(t *testing.T) {
	each(t, many(), func(d *desk, side, path int) {
		peer := 1 - side
		f := d.asking(side, path)
		d.fine(at(50, sent(side, f)))
		d.hears(side, f)
		d.fine(sent(side, d.asking(side, 1-path)))
		x := on(1-path, ack(0, 1))
		d.shows(sent(peer, x), acks)
		d.fine(at(20, heard(peer, x))) // of the other path
		x = on(path, ack(0, 1))
		d.fine(sent(peer, x), at(50, heard(peer, x)))
		if r := d.closes().Paths[side]; r[path].Rtts != 1 || r[path].RttSum != 0 || r[1-path].Rtts != 1 || r[1-path].RttSum != 20 {
			t.Errorf("%s: %+v", d.name, r)
		}
		f = d.asking(side, path)
		d.fine(at(0, sent(side, f)))
		d.hears(side, f)
		x = on(path, ack(1, 2))
		d.fine(sent(peer, x), at(1<<64-1, heard(peer, x)))
		if r := d.closes().Paths[side][path]; r.Rtts != 2 || r.RttMin != 0 || r.RttMax != 1<<64-1 || r.RttSum != 1<<64-1 {
			t.Errorf("%s: %+v", d.name, r)
		}
	})
	each(t, many(), func(d *desk, side, path int) { // of two frames with the same number the first gives the time; a number that was told stays told
		peer := 1 - side
		d.fine(at(10, sent(side, on(path, probe(0)))))
		d.shows(at(30, sent(side, on(path, fin(0, d.off(side, 9))))), number)
		x := on(path, ack(0, 1))
		d.shows(sent(peer, x), acks)
		d.fine(at(40, heard(peer, x)))
		d.shows(at(90, sent(side, on(path, probe(0)))), number)
		d.fine(at(95, heard(peer, x)))
		if r := d.closes().Paths[side][path]; r.Rtts != 1 || r.RttSum != 30 {
			t.Errorf("%s: %+v", d.name, r)
		}
		y := on(path, ack(1, 4))
		d.shows(sent(peer, y), acks)
		d.fine(at(99, heard(peer, y)))
		d.fine(at(100, sent(side, on(path, probe(3)))))
		d.fine(at(100, heard(peer, y))) // 3 was told before it was sent
		if r := d.closes().Paths[side][path]; r.Rtts != 1 {
			t.Errorf("%s: %+v", d.name, r)
		}
	})
	each(t, []int{api.Single}, func(d *desk, side, path int) {
		f := d.piece(side, path, 0, "a")
		d.fine(sent(side, f))
		d.hears(side, f)
		x := on(path, ack(0, 1))
		d.fine(sent(1-side, x), at(9, heard(1-side, x)))
		if r := d.closes().Paths[side][path]; r.Rtts != 0 || r.RttSum != 0 || r.RttMax != 0 {
			t.Errorf("%s: %+v", d.name, r)
		}
	})
}

// P26.5: a stream's bytes up to the first offset that no DATA had, as they were said first.
func TestStreams(t *testing.T) {
	each(t, all(), func(d *desk, side, path int) {
		send := func(path int, n uint64, text string, broken ...int) {
			t.Helper()
			d.shows(sent(side, d.piece(side, path, n, text)), broken...)
		}
		d.stream(side, "", 0, 0, false)
		d.fine(sent(side, d.asking(side, path)))
		send(path, 4, "efgh")
		d.stream(side, "", 8, 1, false)
		send(path, 1, "bc")
		d.stream(side, "", 8, 2, false)
		send(1-path, 0, "a")
		d.stream(side, "abc", 8, 3, false)
		send(1-path, 0, "z", says)
		d.stream(side, "abc", 8, 3, false)
		d.shows(lost(side, d.piece(side, path, 1, "BCD")), says, cut)
		d.stream(side, "abcDefgh", 8, 4, false)
		send(path, 0, "abcd", says, cut)
		d.stream(side, "abcDefgh", 8, 5, false)
		d.fine(lost(side, d.piece(side, path, 8, "i")))
		d.stream(side, "abcDefghi", 9, 6, false)
		send(path, 30, "far", edge)
		d.stream(side, "abcDefghi", 33, 7, false)
		d.shows(lost(side, d.ending(side, path, 9)), end)
		d.stream(side, "abcDefghi", 33, 7, true)
		d.shows(raw(api.EventSent, side, path, "x"), form)
		d.fine(sent(1-side, d.piece(1-side, path, 0, "0123")))
		d.stream(side, "abcDefghi", 33, 7, true)
		d.stream(1-side, "0123", 4, 1, false)
		d.fine(sent(1-side, d.ending(1-side, path, 4)))
		d.stream(1-side, "0123", 4, 1, true)
	})
}

// P26.5: what is sent ahead of the first offset of a stream is none of its bytes.
func TestStreamBelowBase(t *testing.T) {
	c := config(api.MinRtt)
	d := open(t, c)
	d.fine(sent(1, data(0, 990, "abcd")))
	if r := d.closes().Streams[1]; r.High != 994 || r.Chunks != 1 || len(r.Bytes) != 0 {
		t.Errorf("%+v", r)
	}
	d.fine(sent(1, data(1, 998, "abcd")))
	d.stream(1, "cd", 2, 2, false)
}

// A stream that is longer than the places in which its bytes are kept, and that begins and ends in the midst of one.
func TestLongStream(t *testing.T) {
	for _, base := range []uint64{0, 1, 1023, 1024, 5000, api.MaxOff - 9000, api.MaxOff - 8192} {
		c := config(api.MinRtt)
		c.Mss, c.RecvBuf, c.SendBuf, c.Base[0] = 1000, 65536, 65536, base
		all := strings.Repeat("0123456789abcdefghijklmnopqrstu", 250) // 7750
		a := open(t, c)
		for k := 7; k >= 0; k-- {
			part := all[k*1000 : min(len(all), k*1000+1000)]
			a.fine(sent(0, a.piece(0, 0, uint64(k*1000), part)))
		}
		a.stream(0, all, 7750, 8, false)
		a.shows(sent(0, a.piece(0, 0, 7000, all[7000:7749]+"x")), says)
		a.shows(sent(0, a.piece(0, 0, 3000, "x"+all[3001:4000])), says)
		a.fine(sent(0, a.piece(0, 1, 3000, all[3000:4000])))
		a.shows(sent(0, a.piece(0, 1, 900, all[900:1500]+"x"+all[1501:1900])), says, cut)
		a.stream(0, all, 7750, 9, false)
	}
}

// A foreign hearing is one of a frame that can be read, and that its side has not sent on its path.
func TestForeign(t *testing.T) {
	each(t, all(), func(d *desk, side, path int) {
		x := on(path, prio())
		if d.c.Sched == api.Single {
			x = on(path, dack(d.off(1-side, 0), d.off(1-side, 9)))
		}
		d.fine(raw(api.EventHeard, side, path, "x"), raw(api.EventHeard, side, 1-path, string(coded(x))))
		d.fine(event(api.EventDropped, side, x), event(api.EventDoubled, side, x), event(api.EventSpoilt, side, x))
		d.fine(lost(side, x), heard(side, x), heard(side, x))
		if n := d.closes().Foreign; n != 0 {
			t.Errorf("%s: %d foreign", d.name, n)
		}
		for k, e := range []api.Event{heard(1-side, x), heard(side, on(1-path, x)), heard(side, on(path, fin(0, 3))), heard(side, on(path, fin(0, 3)))} {
			d.fine(e)
			if n := d.closes().Foreign; n != k+1 {
				t.Errorf("%s: %d foreign, want %d", d.name, n, k+1)
			}
		}
		d.fine(heard(side, x), sent(side, on(path, fin(0, 3))), heard(side, on(path, fin(0, 3))))
		if n := d.closes().Foreign; n != 4 {
			t.Errorf("%s: %d foreign", d.name, n)
		}
	})
}

// A frame that was sent as one of another path was not sent on its own.
func TestForeignPath(t *testing.T) {
	each(t, many(), func(d *desk, side, path int) {
		x := on(path, prio())
		d.shows(raw(api.EventSent, side, 1-path, string(coded(x))), form)
		d.fine(raw(api.EventHeard, side, 1-path, string(coded(x))))
		if n := d.closes().Foreign; n != 0 {
			t.Errorf("%s: %d foreign", d.name, n)
		}
		d.fine(heard(side, x))
		if n := d.closes().Foreign; n != 1 {
			t.Errorf("%s: %d foreign", d.name, n)
		}
	})
}

// What is alike in all but one bit is foreign.
func TestForeignBytes(t *testing.T) {
	each(t, many(), func(d *desk, side, path int) {
		f := d.piece(side, path, 0, "abcd")
		d.fine(sent(side, f))
		for k, x := range []api.Frame{on(path, data(f.Num, f.Off, "abce")), on(path, data(f.Num+1, f.Off, "abcd")), on(path, data(f.Num, f.Off+1, "abcd")), on(path, data(f.Num, f.Off, "abc")), on(path, fin(f.Num, f.Off))} {
			d.fine(heard(side, x))
			if n := d.closes().Foreign; n != k+1 {
				t.Errorf("%s: %d foreign, want %d", d.name, n, k+1)
			}
		}
	})
}

// Behind a foreign hearing nothing is judged, and all is counted; its own numbers, bytes and tellings count for nothing.
func TestBehindForeign(t *testing.T) {
	each(t, all(), func(d *desk, side, path int) {
		peer := 1 - side
		good := d.asking(side, path)
		d.fine(at(5, sent(side, good)))
		d.hears(side, good)
		d.fine(heard(side, on(path, probe(9))))
		d.fine(
			raw(api.EventSent, side, path, "x"), sent(side, on(path, probe(77))), sent(side, on(path, data(3, d.off(side, 0), "abcdef"))),
			lost(side, on(path, data(3, d.off(side, 2), "xyz"))), sent(side, on(path, fin(0, d.off(side, 1)))), sent(side, on(path, data(3, d.off(side, 0), "abcdef"))),
			sent(peer, on(path, ack(0, 1))), at(25, heard(peer, on(path, ack(0, 1)))), sent(peer, on(path, dack(0, 5000))),
			sent(side, on(path, rst(3))), sent(side, on(path, joined())), sent(side, on(path, prove())), sent(side, on(path, probe(10))),
			heard(side, on(path, probe(77))), heard(side, on(path, probe(10))), heard(side, on(path, probe(77))), heard(side, on(path, data(3, d.off(side, 0), "abcdef"))),
			heard(peer, on(path, ack(5, 6))), heard(peer, on(path, ack(77, 78))), raw(api.EventHeard, side, path, "x"),
		)
		r := d.closes()
		if len(r.Findings) != 0 || r.Foreign != 3 {
			t.Errorf("%s: %v, %d foreign", d.name, r.Findings, r.Foreign)
		}
		want := api.PathReport{Sent: 10, Lost: 1, Heard: 7, Unread: 1, Data: 3, Again: 1, Bytes: 15, Late: 2, Twice: 1, Rtts: 1, RttMin: 20, RttMax: 20, RttSum: 20}
		if d.c.Sched == api.Single {
			want.Rtts, want.RttMin, want.RttMax, want.RttSum = 0, 0, 0, 0
		}
		d.path(side, path, want)
		d.stream(side, "abcdef", 6, 2, true)
	})
}

// A foreign hearing shows nothing itself, also where an answer is owed, nor is one owed by it.
func TestForeignAndDebt(t *testing.T) {
	eachOwing(t, func(d *desk, side, kind int) {
		d.fine(heard(side, on(0, prio())))
		d.fine(sent(1-side, on(1, prio())), raw(api.EventSent, side, 0, "x"))
	})
	eachOwing(t, func(d *desk, side, kind int) {
		e, broken := d.reply(side, kind)
		d.shows(e, broken...)
		d.fine(heard(1-side, on(0, prio())))
		d.fine(sent(side, on(1, dack(d.off(1-side, 0), d.off(1-side, 0)))))
	})
	each(t, all(), func(d *desk, side, path int) {
		d.fine(heard(side, probe(0)))
		d.fine(sent(side, on(1, probe(0))))
	})
}

// All findings stand in the report, in the order in which they were answered.
func TestFindings(t *testing.T) {
	each(t, many(), func(d *desk, side, path int) {
		d.shows(sent(side, on(path, probe(1))), number)
		d.fine(raw(api.EventDropped, side, path, "x"))
		d.shows(sent(1-side, on(path, data(3, d.off(1-side, 12), "vwxyz"))), number, edge, cut)
		d.fine(sent(side, on(0, rst(d.c.Keys[1-side]))))
		d.shows(sent(side, on(1-path, fin(9, 9))), number, after)
		want := []api.Finding{{Rule: number, Side: side, Path: path}, {Place: 2, Rule: number, Side: 1 - side, Path: path}, {Place: 2, Rule: edge, Side: 1 - side, Path: path}, {Place: 2, Rule: cut, Side: 1 - side, Path: path}, {Place: 4, Rule: number, Side: side, Path: 1 - path}, {Place: 4, Rule: after, Side: side, Path: 1 - path}}
		if got := fmt.Sprint(d.closes().Findings); got != fmt.Sprint(want) {
			t.Errorf("%s: %s\nwant %v", d.name, got, want)
		}
	})
}
