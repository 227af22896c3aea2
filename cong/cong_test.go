package cong_test

import (
	"math"
	"testing"

	"braid/api"
	"braid/cong"
)

func is(t *testing.T, what string, g *cong.Group, path, cwnd, thresh int) {
	t.Helper()
	want := api.Window{Cwnd: cwnd, Thresh: thresh}
	if w := g.Window(path); w != want || g.Frames(path) != cwnd/1024 {
		t.Errorf("%s: path %d has %v, %d frames, want %v", what, path, w, g.Frames(path), want)
	}
}

// cut is a new Group whose paths were all cut once: {5120, 5120} each.
func cut(paths int) *cong.Group {
	g := cong.New(paths)
	for p := range paths {
		g.Cut(p)
	}
	return g
}

// counting is the same with all of them taken and a time of each.
func counting(times ...uint64) *cong.Group {
	g := cut(len(times))
	for p, ms := range times {
		count(g, p, ms)
	}
	return g
}

func count(g *cong.Group, path int, ms uint64) {
	g.Take(path, true)
	g.Rtt(path, ms)
}

// fill brings a path's window to its end.
func fill(g *cong.Group, path int) { g.Acked(path, math.MaxInt) }

// notThere is paths that a Group of so many does not have.
func notThere(paths int) []int {
	return []int{-1, -2, paths, paths + 1, api.MaxPaths, 1 << 32, math.MaxInt, math.MinInt}
}

// callAll makes every call that may change something, of one path.
func callAll(g *cong.Group, path int) {
	g.Take(path, true)
	g.Rtt(path, 1)
	g.Acked(path, 5)
	g.Cut(path)
	g.Acked(path, math.MaxInt)
	g.Timeout(path)
	g.Take(path, false)
}

// P6.1: so many paths and no others, each with its first window.
func TestNew(t *testing.T) {
	for _, n := range []int{math.MinInt, -8, -1, 0, 9, 10, 256, 1<<32 + 1, math.MaxInt} {
		if cong.New(n) != nil {
			t.Errorf("New(%d) is there", n)
		}
	}
	for n := 1; n <= 8; n++ {
		g := cong.New(n)
		if g == nil {
			t.Fatalf("New(%d) is nil", n)
		}
		for p := range n {
			is(t, "New", g, p, 10240, 262144)
		}
		for _, p := range notThere(n) {
			is(t, "not there", g, p, 0, 0)
		}
	}
}

// P6.1: none is taken and no time is known: only both together let a path count.
func TestNothingCountsAtFirst(t *testing.T) {
	for _, c := range []struct {
		what string
		do   func(g *cong.Group)
		want int
	}{
		{"nothing told", func(*cong.Group) {}, 5324},
		{"taken alone", func(g *cong.Group) { g.Take(0, true) }, 5324},
		{"a time alone", func(g *cong.Group) { g.Rtt(0, 100) }, 5324},
		{"both", func(g *cong.Group) { count(g, 0, 100) }, 5171},
		{"the time first", func(g *cong.Group) { g.Rtt(0, 100); g.Take(0, true) }, 5171},
		{"taken and let go", func(g *cong.Group) { count(g, 0, 100); g.Take(0, false) }, 5324},
		{"taken again", func(g *cong.Group) { count(g, 0, 100); g.Take(0, false); g.Take(0, true) }, 5171},
		{"the other one is let go", func(g *cong.Group) { count(g, 0, 100); g.Take(1, false) }, 5324},
	} {
		g := cut(2)
		count(g, 1, 100)
		c.do(g)
		g.Acked(0, 1)
		is(t, c.what, g, 0, c.want, 5120)
	}
}

// P6.5: a path that is taken and whose time is not known does not weigh on others.
func TestUnknownTimeDoesNotCount(t *testing.T) {
	g := cut(3)
	count(g, 0, 100)
	g.Take(1, true)
	g.Rtt(2, 1)
	g.Acked(0, 1)
	is(t, "the others do not count", g, 0, 5324, 5120)
}

// Section 'Errors': a path that is not there changes nothing, and nothing of those that are.
func TestNotThere(t *testing.T) {
	for n := 1; n <= 8; n++ {
		g := cong.New(n)
		for _, p := range notThere(n) {
			callAll(g, p)
			g.Take(p, true)
			is(t, "not there", g, p, 0, 0)
		}
		for p := range n {
			is(t, "there", g, p, 10240, 262144)
		}
	}
	// Neither do its time and its being taken weigh on a path that counts.
	g := cut(1)
	count(g, 0, 100)
	for _, p := range notThere(1) {
		count(g, p, 1)
	}
	g.Acked(0, 1)
	is(t, "alone", g, 0, 5324, 5120)
}

// Below 'Functions': of a Group that New did not give no path is there.
func TestNotGiven(t *testing.T) {
	var none *cong.Group
	for _, g := range []*cong.Group{none, {}, new(cong.Group), cong.New(0), cong.New(9)} {
		for _, p := range append(notThere(8), 0, 1, 7) {
			callAll(g, p)
			count(g, p, 100)
			g.Acked(p, 1)
			is(t, "not given", g, p, 0, 0)
		}
	}
}

// P6.4, P6.6 and the chapter's examples 1 and 2: a path alone.
func TestAlone(t *testing.T) {
	g := cong.New(2)
	for _, c := range []struct {
		what         string
		do           func()
		cwnd, thresh int
	}{
		{"three", func() { g.Acked(0, 3) }, 13312, 262144},
		{"Cut", func() { g.Cut(0) }, 6656, 6656},
		{"own step", func() { g.Acked(0, 1) }, 6813, 6656},
		{"Timeout", func() { g.Timeout(0) }, 1024, 3406},
		{"slow start", func() { g.Acked(0, 2) }, 3072, 3406},
		{"its end", func() { g.Acked(0, 1) }, 3406, 3406},
		{"behind it", func() { g.Acked(0, 1) }, 3406 + 307, 3406},
		{"Timeout", func() { g.Timeout(0) }, 1024, 2048},
		{"Timeout of one frame", func() { g.Timeout(0) }, 1024, 2048},
		{"to 2048", func() { g.Acked(0, 1) }, 2048, 2048},
		{"at 2048", func() { g.Acked(0, 1) }, 2560, 2048},
		{"Cut to 2048", func() { g.Cut(0) }, 2048, 2048},
		{"Cut of 2048", func() { g.Cut(0) }, 2048, 2048},
		{"Timeout of 2048", func() { g.Timeout(0) }, 1024, 2048},
		{"Cut of one frame", func() { g.Cut(0) }, 2048, 2048},
	} {
		c.do()
		is(t, c.what, g, 0, c.cwnd, c.thresh)
		is(t, "the other path", g, 1, 10240, 262144)
	}
}

// P6.4: fewer frames than one are nothing, in slow start and behind it.
func TestAckedNothing(t *testing.T) {
	fresh, behind := cong.New(1), counting(100, 100)
	for _, n := range []int{0, -1, -5, math.MinInt, math.MinInt + 1} {
		fresh.Acked(0, n)
		behind.Acked(0, n)
	}
	is(t, "slow start", fresh, 0, 10240, 262144)
	is(t, "behind it", behind, 0, 5120, 5120)
}

// P6.4: so many frames at once are as many one by one, through the end of slow start too.
func TestAckedIsOneByOne(t *testing.T) {
	for frames := 1; frames < 400; frames += 7 {
		g, h := counting(30, 70, 7), counting(30, 70, 7)
		g.Timeout(1)
		h.Timeout(1)
		g.Acked(1, frames)
		for range frames {
			h.Acked(1, 1)
		}
		if g.Window(1) != h.Window(1) {
			t.Fatalf("%d frames: %v, one by one %v", frames, g.Window(1), h.Window(1))
		}
	}
}

// P6.4: a window ends at MaxWindow frames, in slow start and behind it, and stays there.
func TestFull(t *testing.T) {
	g := cong.New(1)
	g.Acked(0, 245)
	is(t, "245", g, 0, 261120, 262144)
	g.Acked(0, 1)
	is(t, "246", g, 0, 262144, 262144)
	g.Acked(0, 1)
	is(t, "at MaxWindow", g, 0, 262144, 262144)
	g.Cut(0)
	is(t, "Cut", g, 0, 131072, 131072)
	g.Acked(0, 1)
	is(t, "own step", g, 0, 131080, 131072)
	fill(g, 0)
	is(t, "filled behind slow start", g, 0, 262144, 131072)
	g.Acked(0, 1)
	is(t, "at MaxWindow behind slow start", g, 0, 262144, 131072)
	g.Timeout(0)
	is(t, "Timeout", g, 0, 1024, 131072)
}

// P6.4, example 6: as many frames as an int holds come to an end; at the slowest steps too.
func TestMaxFrames(t *testing.T) {
	for _, frames := range []int{math.MaxInt, math.MaxInt - 1, 1 << 62, 1 << 32} {
		g := cong.New(8)
		g.Acked(0, frames)
		is(t, "fresh", g, 0, 262144, 262144)
		for p := range 8 {
			count(g, p, 100)
			g.Acked(p, frames)
		}
		g.Timeout(0)
		g.Timeout(0)
		g.Acked(0, frames)
		is(t, "coupled", g, 0, 262144, 2048)
	}
}

// P6.2: a time of 0 counts as 1, one above MaxRto as MaxRto.
func TestTimesAtTheirEnds(t *testing.T) {
	for _, c := range []struct{ told, as uint64 }{
		{0, 1}, {60001, 60000}, {1 << 32, 60000}, {1<<63 - 1, 60000}, {1 << 63, 60000}, {math.MaxUint64, 60000},
	} {
		for _, other := range []uint64{1, 2, 59999, 60000} {
			g, h := counting(c.told, other), counting(c.as, other)
			for p := range 2 {
				g.Acked(p, 9)
				h.Acked(p, 9)
				if g.Window(p) != h.Window(p) {
					t.Errorf("%d ms beside %d: %v, want %v", c.told, other, g.Window(p), h.Window(p))
				}
			}
		}
	}
}

// P6.2: times next to an end are not the end.
func TestTimesNextToTheirEnds(t *testing.T) {
	for _, c := range []struct {
		mine, other uint64
		want        int
	}{
		{0, 1, 5120 + 51}, {1, 1, 5120 + 51}, {2, 1, 5120 + 90}, {0, 2, 5120 + 90},
		{60000, 30000, 5120 + 90}, {70000, 30000, 5120 + 90}, {60000, math.MaxUint64, 5120 + 51},
	} {
		g := counting(c.mine, c.other)
		g.Acked(0, 1)
		is(t, "times", g, 0, c.want, 5120)
	}
}

// P6.5 and examples 3 and 4: the coupled step of two paths.
func TestCoupled(t *testing.T) {
	g := counting(100, 100)
	g.Acked(0, 1)
	is(t, "alike", g, 0, 5171, 5120)
	is(t, "the other one", g, 1, 5120, 5120)
	g = counting(100, 200)
	g.Acked(0, 1)
	is(t, "quicker", g, 0, 5210, 5120)
	g.Acked(1, 1)
	is(t, "slower", g, 1, 5210, 5120)
	is(t, "quicker, as it was", g, 0, 5210, 5120)
}

// P6.5: a path that counts takes its own step where the coupled one is more.
func TestOwnIsLess(t *testing.T) {
	g := counting(10, 10000)
	fill(g, 1)
	g.Cut(1)
	// m 10; a 81920 and 2097, S 84017; B 81920; T 136192; q 1022403; p 13279; alpha 12947; coupled 194; own 204 and 8.
	g.Acked(1, 1)
	is(t, "own", g, 1, 131080, 131072)
	g.Timeout(1)
	g.Cut(1)
	// Now c is 2048: a 81920 and 32, S 81952; B 81920; T 7168; q 1048166; p 716; alpha 715; coupled 204, its own 512.
	g.Acked(1, 1)
	is(t, "coupled", g, 1, 2252, 2048)
}

// P6.5: B is the greatest of its numbers, not of the windows; and it is not always the quickest path's.
func TestBest(t *testing.T) {
	g := counting(90, 100)
	g.Timeout(0)
	g.Cut(0)
	// c 2048 and 5120, m 90; a 32768 and 73728, S 106496; B 66355 of path 1 (32768 of path 0); T 7168; q 653337; p 551; alpha 343; coupled 98.
	g.Acked(1, 1)
	is(t, "the slower path has B", g, 1, 5218, 5120)
}

// P6.5: each number is rounded down once, where the chapter says it.
func TestRoundings(t *testing.T) {
	g := counting(12, 19)
	g.Timeout(0)
	// c 1024 and 5120, m 12; a 16384 and 51738, S 68122; B 32677 (out of 51738 it would be 32676, and the step 117); T 6144; q 502984; p 738; alpha 354; coupled 118.
	g.Acked(1, 1)
	is(t, "B is not made of a", g, 1, 5120+118, 5120)
	g = counting(100, 116)
	// a 81920 and 70620, S 152540; B 81920; T 10240; q 563126; p 549; alpha 294; coupled 58 (with p twice as fine it would be 59).
	g.Acked(0, 1)
	is(t, "p is rounded", g, 0, 5120+58, 5120)
}

// P6.5: the step is 1 at least.
func TestStepIsOneAtLeast(t *testing.T) {
	g := cong.New(8)
	for p := range 8 {
		count(g, p, 100)
		fill(g, p)
	}
	g.Cut(0)
	// T 1966080; S 31457280; B 4194304; q 139810; p 512; alpha 68; coupled 68 * 2048 / 1966080 = 0.
	for i := 1; i <= 5; i++ {
		g.Acked(0, 1)
		is(t, "one part", g, 0, 131072+i, 131072)
	}
}

// P6.5 and example 5: one path alone that counts has its own step, whatever its window and time.
func TestOneCounts(t *testing.T) {
	for _, ms := range []uint64{0, 1, 77, 60000, math.MaxUint64} {
		g, own := cut(2), cut(2)
		count(g, 1, ms)
		for range 3000 {
			g.Acked(1, 1)
			own.Acked(1, 1)
			if g.Window(1) != own.Window(1) {
				t.Fatalf("%d ms: %v, its own %v", ms, g.Window(1), own.Window(1))
			}
		}
	}
}

// P6.8: of n paths that are alike alpha is 512 / n, rounded down.
func TestAlike(t *testing.T) {
	for n := 1; n <= 8; n++ {
		for _, cuts := range []int{0, 1, 3} {
			for _, ms := range []uint64{0, 1, 100, 60000} {
				g := cong.New(n)
				for p := range n {
					fill(g, p)
					g.Cut(p)
					for range cuts {
						g.Cut(p)
					}
					count(g, p, ms)
				}
				was := g.Window(0).Cwnd
				want := max(512/n*2048/(n*was), 1)
				g.Acked(0, 1)
				if got := g.Window(0).Cwnd - was; got != want || got > max(1048576/(n*n*was), 1) {
					t.Errorf("%d paths of %d parts: a step of %d, want %d", n, was, got, want)
				}
			}
		}
	}
}

// P6.6: Cut and Timeout at windows around where half of them is 2048.
func TestLosses(t *testing.T) {
	for acked := range 40 {
		g := cong.New(1)
		g.Timeout(0)
		g.Timeout(0)
		g.Acked(0, acked)
		h := cong.New(1)
		h.Timeout(0)
		h.Timeout(0)
		h.Acked(0, acked)
		want := max(g.Window(0).Cwnd/2, 2048)
		g.Cut(0)
		is(t, "Cut", g, 0, want, want)
		h.Timeout(0)
		is(t, "Timeout", h, 0, 1024, want)
	}
}

// P6.7: only Acked, Cut and Timeout of a path change its window, and no other path's.
func TestOtherPathsStay(t *testing.T) {
	for p := range 8 {
		g := counting(5, 10, 20, 40, 80, 160, 320, 640)
		for _, do := range []func(){
			func() { g.Acked(p, 1) }, func() { g.Acked(p, 90) }, func() { g.Cut(p) }, func() { g.Timeout(p) }, func() { fill(g, p) },
		} {
			do()
			for other := range 8 {
				if other != p {
					is(t, "another path", g, other, 5120, 5120)
				}
			}
		}
	}
}

// P6.7, P6.8: which way windows go, and how far by one frame, in long rows of calls.
func TestDirections(t *testing.T) {
	d := dice(7)
	rows := 400
	if testing.Short() {
		rows = 40
	}
	for range rows {
		g := cong.New(1 + int(d.below(8)))
		for p := range 8 {
			count(g, p, someTime(&d))
			g.Take(p, d.below(4) > 0)
		}
		for range 200 {
			oneDirection(t, &d, g, int(d.below(8)))
		}
	}
}

func oneDirection(t *testing.T, d *dice, g *cong.Group, path int) {
	t.Helper()
	was := g.Window(path)
	if was.Cwnd == 0 {
		return
	}
	if d.below(20) == 0 {
		lossGoesDown(t, d, g, path)
		return
	}
	g.Acked(path, 1)
	now := g.Window(path)
	own := 1048576 / was.Cwnd
	switch rise := now.Cwnd - was.Cwnd; {
	case now.Thresh != was.Thresh:
		t.Fatalf("Acked changes Thresh from %v to %v", was, now)
	case was.Cwnd < was.Thresh && rise != min(1024, was.Thresh-was.Cwnd):
		t.Fatalf("slow start from %v to %v", was, now)
	case was.Cwnd >= was.Thresh && was.Cwnd+own <= 262144 && (rise < 1 || rise > own):
		t.Fatalf("from %v to %v, its own step is %d", was, now, own)
	case rise < 0 || now.Cwnd > 262144:
		t.Fatalf("Acked from %v to %v", was, now)
	}
}

func lossGoesDown(t *testing.T, d *dice, g *cong.Group, path int) {
	t.Helper()
	was := g.Window(path)
	if d.below(2) == 0 {
		g.Timeout(path)
		if now := g.Window(path); now.Cwnd > was.Cwnd {
			t.Fatalf("Timeout raises %v to %v", was, now)
		}
		return
	}
	g.Cut(path)
	if now := g.Window(path); now.Cwnd > max(was.Cwnd, 2048) {
		t.Fatalf("Cut raises %v to %v", was, now)
	}
}

// P6.2, P6.9: Take and Rtt leave all windows, and count from the next step on.
func TestStepsToCome(t *testing.T) {
	g := counting(100, 100)
	g.Acked(0, 1)
	g.Rtt(1, 200)
	g.Rtt(0, 1)
	g.Rtt(0, 100)
	g.Take(0, false)
	g.Take(0, true)
	is(t, "told anew", g, 0, 5171, 5120)
	is(t, "told anew", g, 1, 5120, 5120)
	// c 5171 and 5120, m 100; a 82736 and 40960, S 123696; B 82736; T 10291; q 701355; p 681; alpha 455; coupled 90.
	g.Acked(0, 1)
	is(t, "the next step", g, 0, 5261, 5120)
	g.Take(1, false)
	is(t, "let go", g, 1, 5120, 5120)
	g.Acked(0, 1)
	is(t, "alone", g, 0, 5261+199, 5120)
}

// P6.2: a path that was let go keeps its time.
func TestTimeOutlivesTake(t *testing.T) {
	g := counting(100, 200)
	g.Take(0, false)
	g.Take(1, false)
	g.Take(1, true)
	g.Take(0, true)
	g.Acked(0, 1)
	is(t, "both taken again", g, 0, 5210, 5120)
}

// Rule 0.3: two Groups know nothing of one another, and to ask changes nothing.
func TestApart(t *testing.T) {
	g, other := counting(100, 200), counting(100, 200)
	callAll(other, 0)
	callAll(other, 1)
	for range 3 {
		is(t, "asked", g, 0, 5120, 5120)
		is(t, "asked", g, 7, 0, 0)
	}
	g.Acked(0, 1)
	is(t, "apart", g, 0, 5210, 5120)
	is(t, "a newer one", cong.New(2), 0, 10240, 262144)
}
