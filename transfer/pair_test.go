package transfer_test

import (
	"fmt"
	"math"
	"slices"
	"testing"

	"braid/api"
	"braid/journal"
	"braid/pieces"
	"braid/transfer"
)

// believed is P23.12: the file of each fetch that is done has the root of its manifest.
func believed(t *testing.T, x *transfer.Transfer) {
	t.Helper()
	for i, f := range x.Stat().Fetches {
		if f.State != done {
			continue
		}
		b, e := x.Data(i + 1)
		if m, _ := pieces.Describe(f.Name, b, f.Manifest.Piece); e != api.OK || m != f.Manifest {
			t.Fatalf("fetch %d is done: %d; its file is %+v, its manifest %+v", i+1, e, m, f.Manifest)
		}
	}
}

// pair is two Transfers that are joined, with what is under way between them.
type pair struct {
	t     *testing.T
	x     [2]check
	under [2][]byte // from this side to the other one
}

func join(t *testing.T, c api.TransferConfig, logs [2]*journal.Log) *pair {
	t.Helper()
	return &pair{t: t, x: [2]check{begin(t, 0, c, logs[0]), begin(t, 1, turned(c), logs[1])}}
}

// move lets up to so many bytes go out of a side, and up to so many arrive at the other one: did any?
func (p *pair) move(side, most, arrive int) bool {
	p.t.Helper()
	b := p.x[side].x.Out(most)
	p.under[side] = append(p.under[side], b...)
	n := min(arrive, len(p.under[side]))
	p.x[1-side].feed(p.under[side][:n], api.OK)
	p.under[side] = p.under[side][n:]
	return len(b)+n > 0
}

// quiet lets everything go out and arrive, in pieces of any size, till neither has anything to give.
func (p *pair) quiet(d *dice) {
	p.t.Helper()
	for still := 0; still < 4; {
		side := d.below(2)
		if p.move(side, d.one(5, 300, math.MaxInt), d.one(1, 9, 300, math.MaxInt)) {
			still = 0
		} else if !p.move(1-side, math.MaxInt, math.MaxInt) {
			still++
		} else {
			still = 0
		}
	}
}

// P23.11: two sides that offer and fetch at once, with rooms of any size.
func TestItComesWhole(t *testing.T) {
	for seed := range 150 {
		d := dice(seed)
		r := func() api.Rooms {
			return rooms(uint64(d.one(1, 10, 100, 10000)), uint64(d.one(1, 10, 100, 10000)), d.one(1, 2, 20))
		}
		c := api.TransferConfig{Mux: api.MuxConfig{Own: r(), Peer: r(), Hold: 1024 + d.below(3000), Quantum: d.one(1, 100, 65536)}, Batch: d.one(1, 2, 7, 1024)}
		p := join(t, c, [2]*journal.Log{})
		var files [2][]file // that each side wants
		for side := range 2 {
			for i := range 1 + d.below(5) {
				n := d.below(d.one(1, 20, 2000))
				f := fileOf(fmt.Sprint("n", i), letters(n), 1+n/(1+d.below(15)))
				files[side] = append(files[side], f)
				p.x[1-side].offer(f.name, f.data, f.piece, api.OK)
			}
		}
		for range 10 {
			for side := range 2 {
				k := len(p.x[side].x.Stat().Fetches)
				if d.below(2) == 0 && k < len(files[side]) {
					p.x[side].fetch(files[side][k].name, d.below(8), 1+d.below(255), k+1, api.OK)
				}
				p.move(side, d.below(500), d.below(500))
			}
		}
		p.quiet(&d)
		for side := range 2 {
			for i := range p.x[side].x.Stat().Fetches {
				if v := p.x[side].view(i + 1); v.State != done {
					t.Errorf("%+v", v)
				}
				p.x[side].data(i+1, files[side][i].data, api.OK)
			}
			if s := p.x[side].x.Stat(); s.Serving != 0 || len(s.Mux.Streams) != 0 {
				t.Errorf("there is left: %+v", s)
			}
			believed(t, p.x[side].x)
		}
		if t.Failed() {
			t.Fatalf("seed %d: %+v", seed, c)
		}
	}
}

// P23.11: a fetch that could not be had has it, when it is offered from then on.
func TestItComesAtLast(t *testing.T) {
	for seed := range 40 {
		d := dice(seed)
		p := join(t, small(), [2]*journal.Log{})
		x, old := fileOf("x", letters(200), 30), fileOf("x", letters(199), 30)
		p.x[0].fetch("x", 0, 1, 1, api.OK)
		p.quiet(&d)
		p.x[0].stands(1, missing, 0, 1, 0)
		p.x[1].offer("x", old.data, old.piece, api.OK)
		p.x[0].again(1, api.OK)
		for range d.below(60) {
			p.move(d.below(2), d.below(50), d.below(50))
		}
		p.x[1].withdraw("x", api.OK)
		p.x[1].offer("x", x.data, x.piece, api.OK)
		p.quiet(&d)
		switch v := p.x[0].view(1); {
		case v.State == changed:
			p.x[0].again(1, api.OK)
			p.quiet(&d)
			p.x[0].data(1, x.data, api.OK)
		case v.Manifest == old.manifest():
			p.x[0].data(1, old.data, api.OK)
		default:
			p.x[0].data(1, x.data, api.OK)
		}
	}
}

// The sixty-four fetches that may be, all at once, by classes and shares.
func TestManyAtOnce(t *testing.T) {
	d := dice(3)
	p := join(t, small(), [2]*journal.Log{})
	for i := range api.MaxFetches {
		p.x[1].offer(fmt.Sprint(i), letters(10*i), 7, api.OK)
		p.x[0].fetch(fmt.Sprint(i), i%8, 1+i, i+1, api.OK)
	}
	p.quiet(&d)
	for i := range api.MaxFetches {
		p.x[0].data(i+1, letters(10*i), api.OK)
	}
}

// liar is a man in the middle: some of the bytes within streams are others.
func (p *pair) liar(d *dice, side, one int) {
	p.t.Helper()
	l := frames(p.t, p.x[side].x.Out(math.MaxInt))
	for _, f := range l {
		for i := range f.Data {
			if d.below(one) == 0 {
				f.Data[i] ^= byte(1 << d.below(8))
			}
		}
	}
	p.x[1-side].hears(l...)
}

// P23.12: what comes is the file, or the fetch fails, whatever stands in between; and then it comes by Again.
func TestNobodyIsBelieved(t *testing.T) {
	fails, dones := 0, 0
	for seed := range 150 {
		d := dice(seed)
		c := wide()
		c.Batch = 1 + d.below(5)
		p := join(t, c, [2]*journal.Log{logOf(t), nil})
		files := []file{fileOf("x", letters(900), 50), fileOf("y", letters(90), 7), fileOf("z", letters(10), 20)}
		for i, f := range files {
			p.x[1].offer(f.name, f.data, f.piece, api.OK)
			p.x[0].fetch(f.name, 0, 1, i+1, api.OK)
		}
		one := d.one(100, 1000, 3000)
		for range 60 {
			p.liar(&d, 0, one)
			p.liar(&d, 1, one)
			for i, f := range p.x[0].x.Stat().Fetches {
				if f.State == failed || f.State == missing || f.State == changed {
					fails++
					p.x[0].again(i+1, api.OK)
				}
			}
			believed(t, p.x[0].x)
		}
		for range 60 {
			p.liar(&d, 0, 1<<30)
			p.liar(&d, 1, 1<<30)
			for i, f := range p.x[0].x.Stat().Fetches {
				if f.State == failed || f.State == missing || f.State == changed {
					p.x[0].again(i+1, api.OK)
				}
			}
		}
		for i, f := range files {
			// A name may have been another one on its way, and so what is offered.
			if v := p.x[0].view(i + 1); v.State == done {
				dones++
				p.x[0].data(i+1, f.data, api.OK)
			}
		}
	}
	if fails < 100 || dones < 400 {
		t.Errorf("%d failed, %d were done", fails, dones)
	}
}

// P23.12: a peer that tells its own file by another one's manifest, or a manifest of no file at all.
func TestLies(t *testing.T) {
	x, y := fileOf("x", letters(300), 50), fileOf("x", letters(301)[1:], 50)
	for i := range x.count() {
		e := examP(t, x)
		numbers := []int{0, 1, 2, 3, 4, 5}
		if !e.sits(x.parts(numbers[:i]...)+y.part(i), 1000) {
			t.Fatalf("piece %d of another file is taken", i)
		}
		believed(t, e.x)
	}
	for _, m := range []api.Manifest{
		{Name: "x", Size: 250, Piece: 50, Root: x.root()},
		{Name: "x", Size: 301, Piece: 50, Root: x.root()},
		{Name: "x", Size: 300, Piece: 49, Root: x.root()},
		{Name: "x", Size: 300, Piece: 300, Root: x.root()},
		{Name: "x", Size: 300, Piece: 50, Root: y.root()},
	} {
		c := wide()
		c.Batch = 9
		p := facing(t, c, nil)
		p.fetch("x", 0, 1, 1, api.OK)
		p.asked(1, requestM("x"))
		p.answers(1, answerM(m))
		p.asked(3, requestP("x", m.Root, 0, pieces.Count(m)))
		p.answers(3, x.parts(0, 1, 2, 3, 4, 5))
		if v := p.view(1); v.State != failed {
			t.Errorf("%+v: %+v", m, v)
		}
	}
}

// sniff is what has gone out of a side, stream by stream.
type sniff struct {
	left []byte
	on   map[uint64][]byte
}

// hear gives the requests that have ended.
func (s *sniff) hear(t *testing.T, b []byte) [][]byte {
	var l [][]byte
	for _, f := range frames(t, b) {
		switch f.Kind {
		case api.MuxBytes:
			s.on[f.Stream] = append(s.on[f.Stream], f.Data...)
		case api.MuxEnd:
			l = append(l, s.on[f.Stream])
		}
	}
	return l
}

// stretches is the numbers that a request P asks for, of this file.
func stretches(q []byte, f file) []int {
	var l []int
	for r := range slices.Chunk(q[2+len(f.name)+34:], 8) {
		for i := int(r[2])<<8 | int(r[3]); i < int(r[6])<<8|int(r[7]); i++ {
			l = append(l, i)
		}
	}
	return l
}

// P23.13, P23.14: a side that dies and lives again over its log asks for no piece that the log has; all that the log took is known.
func TestNothingTwice(t *testing.T) {
	for seed := range 100 {
		d := dice(seed)
		x := fileOf("x", letters(500), 1+d.below(30))
		log, disk := newLog(t, 1<<17)
		whole := false
		for life := 0; !whole && life < 200; life++ {
			c := wide()
			c.Batch = 1 + d.below(40)
			p := join(t, c, [2]*journal.Log{log, nil})
			p.x[1].offer("x", x.data, x.piece, api.OK)
			there := knownOf(t, log, x)
			p.x[0].fetch("x", 0, 1, 1, api.OK)
			if v := p.x[0].view(1); v.Have != len(there) {
				t.Fatalf("seed %d: %d pieces are known, %d stand in the log", seed, v.Have, len(there))
			}
			s := sniff{on: map[uint64][]byte{}}
			for turns := 1 + d.below(8); turns > 0; turns-- {
				b := p.x[0].x.Out(math.MaxInt)
				for _, q := range s.hear(t, b) {
					if q[0] == 'M' {
						continue
					}
					for _, i := range stretches(q, x) {
						if has(knownOf(t, log, x), i) {
							t.Fatalf("seed %d, life %d: piece %d is asked for again", seed, life, i)
						}
					}
				}
				p.x[1].feed(b, api.OK)
				back := p.x[1].x.Out(math.MaxInt)
				if turns == 1 {
					// The last that comes is cut.
					back = back[:d.below(len(back)+1)]
				}
				p.x[0].feed(back, api.OK)
				if d.below(2) == 0 {
					p.x[0].sync(api.OK)
				}
			}
			whole = p.x[0].view(1).State == done
			if whole {
				p.x[0].data(1, x.data, api.OK)
			}
			if d.below(2) == 0 {
				disk.Crash(d.below(10), d.below(100))
				log, _ = journal.Open(disk)
			}
		}
		if !whole {
			t.Fatalf("seed %d: it has not come", seed)
		}
	}
}

// knownOf is the pieces of a file that a log has.
func knownOf(t *testing.T, log *journal.Log, f file) []int {
	t.Helper()
	var l []int
	if k := recalled(log.Records())[f.name]; k != nil {
		for i := range k.have {
			l = append(l, i)
		}
	}
	return l
}
