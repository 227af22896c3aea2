package carry_test

import (
	"math"
	"reflect"
	"slices"
	"strings"
	"testing"

	"braid/api"
	"braid/carry"
	"braid/harness"
	"braid/script"
	"braid/wire"
)

// config is a fit one, with changes.
func config(changes ...func(*api.Config)) api.Config {
	c := api.Config{Paths: 2, Mss: 4, SendBuf: 400, RecvBuf: 400, Gaps: 8, Retries: 1, Bag: 4096, Sched: api.RoundRobin, Keys: [2]uint64{7, 9}, Base: [2]uint64{0, 1000}}
	for _, change := range changes {
		change(&c)
	}
	return c
}

// scriptOf is one of a configuration whose other paths are joined, and then these steps.
func scriptOf(c api.Config, steps ...api.Step) api.Script {
	s := api.Script{Config: c}
	for p := 1; p < c.Paths; p++ {
		s.Steps = append(s.Steps, api.Step{Kind: api.StepJoin, Path: p}, flush(p))
	}
	s.Steps = append(s.Steps, steps...)
	return s
}

// parsed is the script of a text, whose lines have / between.
func parsed(t *testing.T, text string) api.Script {
	t.Helper()
	s, err := script.Parse(strings.ReplaceAll(text, " / ", "\n"))
	if err != nil {
		t.Fatal(err)
	}
	return s
}

// carriesAll carries a script over to each scheduler, and to one, two and all paths.
func carriesAll(t *testing.T, s api.Script) {
	t.Helper()
	was := harness.Run(s)
	if was.Forged != 0 {
		t.Fatal("forged")
	}
	for _, sched := range targets {
		for _, paths := range []int{1, 2, api.MaxPaths} {
			carriesFrom(t, s, was, sched, paths)
		}
	}
}

// answered fails unless a side's calls are answered so, in harness.Play's words.
func answered(t *testing.T, s api.Script, side string, want ...string) {
	t.Helper()
	var got []string
	for line := range strings.Lines(harness.Play(script.Print(s))) {
		if line = strings.TrimSuffix(line, "\n"); strings.HasPrefix(line, side+" ") {
			got = append(got, line[2:])
		}
	}
	if !slices.Equal(got, want) {
		t.Errorf("%s: %q, want %q", side, got, want)
	}
}

// delivered is what a script's deliveries bring, in their order: kind, side.
func delivered(t *testing.T, s api.Script) (l [][2]int) {
	t.Helper()
	w := open(t, s.Config)
	for _, x := range s.Steps {
		if x.Kind == api.StepDeliver {
			bag := w.Bag(x.Side, x.Path)
			if x.N < 0 || x.N >= len(bag) {
				t.Fatalf("%+v of %d", x, len(bag))
			}
			f, _ := wire.Decode(bag[x.N].Bytes)
			l = append(l, [2]int{f.Kind, x.Side})
		}
		w.Do(x)
	}
	return l
}

// P16.1, the chapter's example 1: what is no target, and what may not be a configuration.
func TestErrors(t *testing.T) {
	fit := scriptOf(config(), write(0, "abcdefgh"), flush(0), read(1, 9))
	unfit := fit
	unfit.Config.Mss = 0
	for _, sched := range []int{math.MinInt, -1, 0, 1, 2, 3, 4, 5, 6, 7, math.MaxInt} {
		for _, paths := range []int{math.MinInt, -1, 0, 1, 2, 7, 8, 9, math.MaxInt} {
			target := slices.Contains(targets, sched) && paths >= 1 && paths <= 8
			out, bad := carry.Over(unfit, sched, paths)
			if want := map[bool]api.Errno{false: api.ErrTarget, true: api.ErrConfig}[target]; bad != want || !reflect.DeepEqual(out, api.Script{}) {
				t.Errorf("unfit to %d, %d: %+v, %v", sched, paths, out, bad)
			}
			if target {
				carries(t, fit, sched, paths)
				continue
			}
			if out, bad := carry.Over(fit, sched, paths); bad != api.ErrTarget || !reflect.DeepEqual(out, api.Script{}) {
				t.Errorf("to %d, %d: %+v, %v", sched, paths, out, bad)
			}
		}
	}
}

// P16.1: each bound of a configuration, whatever the target says of paths and weights.
func TestUnfit(t *testing.T) {
	for i, change := range []func(*api.Config){
		func(c *api.Config) { c.Paths = 0 },
		func(c *api.Config) { c.Paths = 9 },
		func(c *api.Config) { c.Mss = 1025 },
		func(c *api.Config) { c.SendBuf = 0 },
		func(c *api.Config) { c.RecvBuf = 3 },
		func(c *api.Config) { c.Gaps = 65 },
		func(c *api.Config) { c.Retries = 17 },
		func(c *api.Config) { c.Bag = 0 },
		func(c *api.Config) { c.Sched = 6 },
		func(c *api.Config) { c.Weights = []int{1, 1, 1} },
		func(c *api.Config) { c.Weights = []int{0} },
		func(c *api.Config) { c.Base[1] = 1<<62 + 1 },
	} {
		if out, bad := carry.Over(api.Script{Config: config(change), Steps: []api.Step{write(0, "x")}}, api.Blest, 3); bad != api.ErrConfig || !reflect.DeepEqual(out, api.Script{}) {
			t.Errorf("%d: %+v, %v", i, out, bad)
		}
	}
}

// P16.2, P16.5: of a script without steps the configuration is all.
func TestNoSteps(t *testing.T) {
	for sched := range api.NumScheds {
		c := config(func(c *api.Config) { c.Sched, c.Weights, c.Picks[1] = sched, []int{3, 2}, []api.Pick{{Path: 1}} })
		for _, to := range targets {
			for paths := 1; paths <= api.MaxPaths; paths++ {
				if out := carries(t, api.Script{Config: c}, to, paths); len(out.Steps) != 0 {
					t.Errorf("%+v", out.Steps)
				}
			}
		}
	}
	carriesAll(t, scriptOf(config()))
}

// The chapter's example 2.
func TestExampleOfTwo(t *testing.T) {
	s := scriptOf(config(func(c *api.Config) { c.SendBuf, c.RecvBuf = 1000, 1000 }),
		write(0, "abcdefgh"), deliver(0, 0, 0), read(1, 100), drop(0, 1, 0), tick(0, 60000))
	carriesAll(t, s)
	out := carries(t, s, api.Single, 1)
	answered(t, out, "A", "write 8 of 8")
	answered(t, out, "B", `read "abcd"`)
	if l := delivered(t, out); !reflect.DeepEqual(l, [][2]int{{api.KindData, 0}, {api.KindAck, 1}}) {
		t.Errorf("%v", l)
	}
	if first, last := out.Steps[0], out.Steps[len(out.Steps)-1]; first.Kind != api.StepWrite || last.Kind != api.StepRead {
		t.Errorf("%+v", out.Steps)
	}
}

// The chapter's example 3: a side dies with all its frames lost, and its RST is delivered at its time.
func TestExampleOfThree(t *testing.T) {
	s := scriptOf(config(), write(0, "abcdefgh"), drop(0, 0, 0), drop(0, 1, 0))
	for range 5 {
		s.Steps = append(s.Steps, tick(0, 60000))
	}
	s.Steps = append(s.Steps, write(0, "x"), read(0, 1), read(1, 3), deliver(0, 0, -1), read(1, 3))
	carriesAll(t, s)
	for _, to := range targets {
		out := carries(t, s, to, 1)
		answered(t, out, "A", "write 8 of 8", "write: error 133", "read: error 133")
		answered(t, out, "B", `read ""`, "read: error 132")
		if l := delivered(t, out); !reflect.DeepEqual(l, [][2]int{{api.KindRst, 0}}) {
			t.Errorf("%v", l)
		}
		ticksUntilDead(t, out)
	}
	s.Steps = s.Steps[:len(s.Steps)-2]
	for _, to := range targets {
		r := harness.Run(carries(t, s, to, 2))
		if r.Stats[0].Err != api.ErrDead || r.Stats[1].Err != api.OK {
			t.Errorf("%+v", r.Stats)
		}
	}
}

// ticksUntilDead fails unless A alone ticks, and no more once it is dead.
func ticksUntilDead(t *testing.T, s api.Script) {
	t.Helper()
	w := open(t, s.Config)
	for _, x := range s.Steps {
		if x.Kind == api.StepTick && (x.Side != api.SideA || w.Stat(api.SideA).Err != api.OK) {
			t.Errorf("%+v", x)
		}
		w.Do(x)
	}
	if w.Stat(api.SideA).Err != api.ErrDead {
		t.Errorf("%+v", w.Stat(api.SideA))
	}
}

// DOC.md's example 10.
func TestExampleOfTheWhole(t *testing.T) {
	s := parsed(t, `paths 2 / mss 4 / sched roundrobin / join a 1 off / flush 1 / write a "abcdefgh" / close a / down 0 / flush 1 / read b 9 / tick a 2000 / flush 1 / read b 9 / read b 9`)
	carriesAll(t, s)
	out := carries(t, s, api.Single, 1)
	answered(t, out, "A", "write 8 of 8", "close")
	answered(t, out, "B", `read ""`, `read "abcdefgh"`, `read "" end`)
	var chunks []int
	for _, x := range delivered(t, out) {
		if x[1] == api.SideA {
			chunks = append(chunks, x[0])
		}
	}
	if !slices.Equal(chunks, []int{api.KindData, api.KindData, api.KindFin}) {
		t.Errorf("%v", chunks)
	}
}

// DOC.md's examples 1 to 5 of the whole, over all.
func TestExamplesOfTheHarness(t *testing.T) {
	for _, text := range []string{
		`mss 4 / send 20 / recv 12 / write a "abcdefg" / deliver a 0 1 / read b 9 / deliver a 0 0 / read b 9 / flush 0`,
		`sched single / mss 3 / write b "hello" / spoil b 0 0 21 1 / flush 0 / read a 9 / tick b 1000 / flush 0 / read a 9`,
		`write a "x" / abort a / read b 5 / flush 0 / read b 5 / write b "y" / close a`,
		`retries 1 / close a / drop a 0 0 / tick a 1000 / tick a 2000 / tick a 4000 / tick a 8000 / close a / read a 1`,
	} {
		carriesAll(t, parsed(t, text))
	}
}

// P16.3: of a side the lowest bit counts, in the given script; the made one has 0 or 1.
func TestSides(t *testing.T) {
	for _, sides := range [][2]int{{0, 1}, {2, 3}, {-2, -1}, {math.MinInt, math.MaxInt}, {math.MaxInt - 1, math.MinInt + 1}, {1, 0}, {-1, 4}} {
		a, b := sides[0], sides[1]
		s := scriptOf(config(), write(a, "abcdefgh"), write(b, "xyz"), deliver(a, 0, 0), flush(1), read(b, 9), flush(0), read(b, 9), shut(a), read(a, 2), abort(b), read(a, 2), flush(0), write(a, "q"), shut(b))
		carriesAll(t, s)
	}
}

// P16.3: what a call's kind has no field for is not carried over.
func TestFieldsOfCalls(t *testing.T) {
	more := func(s api.Step) api.Step {
		s.Path, s.At, s.Mask, s.On = 1, 5, 7, true
		if s.Kind != api.StepRead {
			s.N = 9
		}
		if s.Kind != api.StepWrite {
			s.Data = []byte("more")
		}
		return s
	}
	s := scriptOf(config(), more(write(0, "abcdefgh")), more(write(1, "")), flush(0), more(read(1, 3)), more(shut(0)), flush(1), more(read(1, -4)), more(read(1, math.MaxInt)), more(abort(1)), more(abort(1)), more(shut(1)))
	carriesAll(t, s)
	out := carries(t, s, api.MinRtt, 1)
	for _, x := range out.Steps {
		if isCall(x) && (x.Path != 0 || x.At != 0 || x.Mask != 0 || x.On || x.Kind != api.StepRead && x.N != 0 || x.Kind != api.StepWrite && x.Data != nil) {
			t.Errorf("%+v", x)
		}
	}
}

// Steps that are none, or meet nothing, have no part.
func TestStepsThatAreNone(t *testing.T) {
	s := scriptOf(config(), api.Step{Kind: 0, Data: []byte("x")}, api.Step{Kind: 16}, api.Step{Kind: -1}, api.Step{Kind: math.MaxInt}, deliver(0, 5, 0), deliver(1, -1, 3), drop(0, 0, 7), flush(9), api.Step{Kind: api.StepJoin, Path: 4}, write(0, "abc"), flush(0), read(1, 2))
	carriesAll(t, s)
	out := carries(t, s, api.Redundant, 1)
	answered(t, out, "A", "write 3 of 3")
	answered(t, out, "B", `read "ab"`)
}

// words is so many bytes that tell their places.
func words(n int) string {
	var b strings.Builder
	for i := range n {
		b.WriteByte(byte('a' + i%23))
	}
	return b.String()
}

// busy is a script of eight paths in which A has 80 chunks under way, and these steps.
func busy(sched int, steps ...api.Step) api.Script {
	c := config(func(c *api.Config) { c.Paths, c.Sched, c.Gaps = 8, sched, 64 })
	return scriptOf(c, append([]api.Step{write(1, "uvwxyz"), write(0, words(320)), shut(0)}, steps...)...)
}

// dying is ticks that bring a side to its death.
func dying(side int) []api.Step {
	return slices.Repeat([]api.Step{tick(side, 60000)}, 5)
}

// chunksHeard is deliveries of all chunks of busy's A, with Reads of B between; the last ones of a path first, if back.
func chunksHeard(back bool) []api.Step {
	var l []api.Step
	for k := range 10 {
		for path := range 8 {
			n := 0
			if back {
				n = 9 - k
			}
			l = append(l, deliver(0, path, n), read(1, 3))
		}
	}
	return l
}

// P16.4: a side that ends has more under way than one path's window holds, and its peer goes on hearing it; then it hears the end, or never.
func TestEndWithMuchUnderWay(t *testing.T) {
	for _, sched := range []int{api.RoundRobin, api.Blest} {
		for _, end := range [][]api.Step{{abort(0)}, dying(0)} {
			for _, back := range []bool{false, true} {
				steps := slices.Concat(end, []api.Step{write(0, "x"), read(0, 9), shut(0)}, chunksHeard(back), []api.Step{write(1, "late"), read(1, 400), abort(0)})
				s := busy(sched, steps...)
				carriesAll(t, s)
				for path := range 8 {
					s.Steps = append(s.Steps, deliver(0, path, -1), read(1, 1), write(1, "y"), read(0, 5))
				}
				carriesAll(t, s)
			}
		}
	}
}

// The premise of the test above: B hears all that A had under way, behind A's end.
func TestMuchIsHeard(t *testing.T) {
	for _, end := range [][]api.Step{{abort(0)}, dying(0)} {
		s := busy(api.RoundRobin, slices.Concat(end, chunksHeard(false), []api.Step{read(1, 400)})...)
		read := 0
		for _, e := range entriesOf(harness.Run(s).Trace, 1) {
			if e.Op == api.StepRead {
				read += len(e.Data)
			}
		}
		if read != 320 {
			t.Errorf("%d bytes", read)
		}
	}
}

// P16.4: both sides end, in each way and order, while the one that ends last goes on hearing.
func TestBothEnd(t *testing.T) {
	for _, first := range [][]api.Step{{abort(0)}, dying(0)} {
		for _, last := range [][]api.Step{{abort(1)}, dying(1)} {
			calls := []api.Step{write(0, "x"), read(0, 9), write(1, "x"), read(1, 5), shut(0), shut(1), abort(0), abort(1)}
			steps := slices.Concat([]api.Step{deliver(1, 0, 0), read(0, 2)}, first, calls[:6], chunksHeard(false), last, calls, []api.Step{flush(0), flush(1), flush(7)}, calls)
			carriesAll(t, busy(api.RoundRobin, steps...))
		}
	}
}

// P16.4: DACKs that a side sent ahead of its end are heard behind it, one by one.
func TestDacksBehindTheEnd(t *testing.T) {
	for _, end := range [][]api.Step{{abort(1)}, dying(1)} {
		c := config(func(c *api.Config) { c.SendBuf, c.RecvBuf = 20, 12 })
		s := scriptOf(c, write(0, words(30)))
		for range 2 {
			s.Steps = append(s.Steps, deliver(0, 0, 0), read(1, 3), deliver(0, 1, 0), read(1, 2))
		}
		s.Steps = append(s.Steps, end...)
		for range 12 {
			s.Steps = append(s.Steps, deliver(1, 0, 0), write(0, words(5)), deliver(1, 1, 0), write(0, words(3)), read(1, 4), deliver(0, 0, 0))
		}
		s.Steps = append(s.Steps, shut(0), read(0, 1))
		carriesAll(t, s)
	}
}

// P16.4: an RST is heard, is lost, or lies in the bag at the end; of several one is heard.
func TestResets(t *testing.T) {
	for _, end := range [][]api.Step{{abort(0)}, dying(0)} {
		begin := slices.Concat([]api.Step{write(0, "abcdefgh"), write(1, "xyz"), deliver(0, 0, 0), flush(1), read(1, 2)}, end)
		behind := []api.Step{read(1, 2), write(1, "pq"), shut(1), abort(1), read(0, 1), write(0, "q"), abort(0), shut(0)}
		for _, middle := range [][]api.Step{
			nil,
			{deliver(0, 0, -1)},
			{drop(0, 0, -1)},
			{drop(0, 0, -1), deliver(0, 1, -1)},
			{drop(0, 0, -1), drop(0, 1, -1), flush(0), flush(1)},
			{deliver(0, 1, -1), deliver(0, 0, -1), flush(0), flush(1)},
			{flush(0)},
			{read(1, 1), flush(1)},
			{write(1, "r"), deliver(1, 0, 0), deliver(1, 0, 0), flush(0)},
			{{Kind: api.StepSpoil, N: -1, At: 3, Mask: 4}, deliver(0, 0, -1)},
			{{Kind: api.StepSpoil, N: -1, At: 3, Mask: 4}, {Kind: api.StepSpoil, N: -1, At: 3, Mask: 4}, deliver(0, 0, -1)},
		} {
			carriesAll(t, scriptOf(config(), slices.Concat(begin, middle, behind)...))
			carriesAll(t, scriptOf(config(), slices.Concat(begin, middle, behind, []api.Step{flush(0), flush(1)}, behind)...))
		}
	}
}

// P16.4: a stream that is closed: its end comes ahead of its bytes or behind, is read or not, is known or not.
func TestEnds(t *testing.T) {
	for _, text := range []string{"", "a", "abcdefgh", words(40)} {
		begin := []api.Step{write(0, text), shut(0), write(0, "x"), shut(0), read(1, 0), read(1, 100)}
		for _, middle := range [][]api.Step{
			{flush(0), flush(1)},
			{deliver(0, 0, -1), read(1, 100), deliver(0, 1, -1), read(1, 100), deliver(0, 0, 0), read(1, 100), flush(1), flush(0)},
			{flush(1), read(1, 1), tick(0, 2000), flush(1), read(1, 100)},
			{drop(0, 0, -1), drop(0, 1, -1), flush(0), flush(1)},
		} {
			for _, behind := range [][]api.Step{
				nil,
				{read(1, 100), read(1, 0), read(1, 5), write(0, "y"), shut(1), flush(0), read(0, 1), read(0, 1)},
				{read(1, 4), write(1, "back"), flush(1), flush(0), read(0, 9), read(1, 4), read(1, 100), read(1, 100)},
				append(dying(0), write(0, "x"), read(1, 9), flush(0), read(1, 9)),
				append(dying(1), write(1, "x"), read(0, 9), flush(0), read(0, 9), shut(0)),
			} {
				carriesAll(t, scriptOf(config(), slices.Concat(begin, middle, behind)...))
			}
		}
	}
}

// P16.4: both streams have ended, and all is told: neither side dies by its clock, and either may still abort.
func TestDone(t *testing.T) {
	s := scriptOf(config(), write(0, "abc"), write(1, "de"), shut(0), shut(1), flush(0), flush(1), read(0, 9), read(1, 9), flush(0), flush(1))
	s.Steps = append(append(append(s.Steps, dying(0)...), dying(1)...), write(0, "x"), read(0, 1), read(1, 1), flush(0), shut(1))
	carriesAll(t, s)
	s.Steps = append(s.Steps, abort(1), read(0, 1), flush(0), read(0, 1), read(1, 1))
	carriesAll(t, s)
}

// P16.4: an edge bars what was accepted, until it is told that another one stands; many turns in one flush.
func TestBars(t *testing.T) {
	for _, size := range [][3]int{{1, 2, 1}, {1, 400, 1}, {4, 400, 4}, {4, 30, 7}, {3, 100, 8}, {10, 25, 10}} {
		c := config(func(c *api.Config) { c.Mss, c.SendBuf, c.RecvBuf = size[0], size[1], size[2] })
		s := scriptOf(c, write(0, words(200)), flush(1), read(1, 1), write(0, "a"), flush(0), read(1, 1), write(0, "bc"))
		for i := range 30 {
			s.Steps = append(s.Steps, flush(i%2), read(1, i%7), write(0, words(i%5)), deliver(1, i%2, 0), deliver(1, 0, -1), write(0, words(9)), deliver(0, i%2, 0))
		}
		carriesAll(t, s)
		s.Steps = append(s.Steps, shut(0), flush(1), flush(0), read(1, 3), flush(0), abort(0), read(1, 400))
		carriesAll(t, s)
	}
}

// P16.4: one flush brings more than a window of chunks, and what their acknowledgements let out.
func TestManyInOneFlush(t *testing.T) {
	c := config(func(c *api.Config) { c.Mss, c.SendBuf, c.RecvBuf = 1, 800, 800 })
	s := scriptOf(c, write(0, words(800)), write(1, words(300)), flush(0), write(0, words(800)), read(1, 700), flush(1), read(0, 800), read(1, 800), flush(0), write(0, words(800)))
	carriesAll(t, s)
}

// P16.4: frames are dropped, doubled, spoilt and healed, and come in any order.
func TestNetwork(t *testing.T) {
	twice := func(side, path, n int) api.Step {
		return api.Step{Kind: api.StepDouble, Side: side, Path: path, N: n}
	}
	spoil := func(side, path, n, at int) api.Step {
		return api.Step{Kind: api.StepSpoil, Side: side, Path: path, N: n, At: at, Mask: 9}
	}
	for _, steps := range [][]api.Step{
		{twice(0, 0, 0), twice(0, 1, 0), deliver(0, 0, -1), read(1, 9), deliver(0, 0, 0), flush(1), flush(0)},
		{spoil(0, 0, 0, 5), deliver(0, 0, 0), spoil(0, 0, 0, 5), spoil(0, 0, 0, 5), deliver(0, 0, 0), flush(1)},
		{spoil(0, 1, 1, -3), flush(0), flush(1), read(1, 9), tick(0, 2000), flush(0)},
		{deliver(0, 1, -1), deliver(0, 0, -1), read(1, 50), deliver(0, 1, 0), deliver(0, 0, 0), read(1, 50), drop(0, 0, 0), tick(0, 2000), flush(1)},
		{drop(0, 0, 0), drop(0, 1, 0), flush(0), flush(1), read(1, 50), tick(0, 3000), flush(0), flush(1)},
		{deliver(0, 0, 0), deliver(0, 1, 0), twice(1, 0, 1), deliver(1, 0, -1), write(0, words(20)), deliver(1, 1, 1), write(0, words(20)), deliver(1, 0, 1), write(0, words(9))},
		{deliver(0, 0, 0), deliver(0, 1, 0), spoil(1, 0, 1, 8), flush(0), write(0, words(20)), flush(1), write(0, words(20))},
	} {
		for _, room := range []int{24, 40, 400} {
			c := config(func(c *api.Config) { c.SendBuf = room })
			s := scriptOf(c, append([]api.Step{write(0, words(41)), write(1, words(6))}, steps...)...)
			s.Steps = append(s.Steps, read(1, 50), write(0, words(30)), read(0, 9), flush(1), read(1, 50), read(0, 9))
			carriesAll(t, s)
		}
	}
}

// P16.4: paths are down, left, for want of others alone, and bags are full.
func TestPaths(t *testing.T) {
	on := func(kind, side, path int, flag bool) api.Step {
		return api.Step{Kind: kind, Side: side, Path: path, On: flag}
	}
	for _, steps := range [][]api.Step{
		{on(api.StepDown, 0, 0, false), write(0, words(50)), flush(0), flush(1), read(1, 50), on(api.StepUp, 0, 0, false), tick(0, 3000), flush(0), flush(1)},
		{write(0, words(50)), on(api.StepLeave, 0, 0, false), flush(1), flush(0), read(1, 50), write(0, words(9)), flush(1)},
		{on(api.StepPrio, 1, 0, true), flush(0), write(0, words(50)), on(api.StepDown, 0, 1, false), flush(1), read(1, 50), tick(0, 3000), flush(0)},
		{on(api.StepDown, 0, 0, false), on(api.StepDown, 0, 1, false), write(0, words(50)), tick(0, 60000), on(api.StepUp, 0, 1, false), tick(0, 60000), flush(1), read(1, 9)},
	} {
		for _, bag := range []int{1, 3, 4096} {
			c := config(func(c *api.Config) { c.Bag = bag })
			s := scriptOf(c, steps...)
			s.Steps = append(s.Steps, read(1, 100), shut(0), write(1, "x"), flush(1), flush(0), read(1, 100), read(0, 2))
			carriesAll(t, s)
		}
	}
}

// P16.6: Replay's answers are such as each other scheduler can bring about.
func TestReplay(t *testing.T) {
	picks := []api.Pick{{Path: 1, Off: 4, Len: 4}, {Path: 5, Off: 0, Len: 4}, {Path: 0, Off: 8, Len: 4}, {Path: 0, Off: 3, Len: 4}, {Path: 0, Len: -1}, {Path: 0, Off: 0, Len: 4}, {Path: 1, Off: 0, Len: 4}, {Path: 0, Off: 12, Len: 0}, {Path: 0, Off: 12, Len: 0}}
	c := config(func(c *api.Config) { c.Sched, c.Picks[0] = api.Replay, picks })
	s := scriptOf(c, write(0, words(12)), flush(1), read(1, 99), flush(0), read(1, 99), shut(0), flush(0), read(1, 99), flush(1), flush(0), read(1, 99), read(1, 1), write(0, "x"))
	carriesAll(t, s)
}

// P16.6: each of the six schedulers' scripts over each other, of one path and of several.
func TestFromEach(t *testing.T) {
	for sched := range api.NumScheds {
		for _, paths := range []int{1, 3, 8} {
			c := config(func(c *api.Config) {
				c.Sched, c.Paths, c.Weights, c.SendBuf, c.RecvBuf = sched, paths, []int{2}, 100, 60
				c.Picks[0] = []api.Pick{{Path: 0, Off: 0, Len: 4}, {Path: paths - 1, Off: 4, Len: 4}, {Path: 0, Off: 8, Len: 4}}
			})
			s := scriptOf(c, write(0, words(150)), write(1, words(30)), flush(paths-1), read(1, 9), deliver(0, 0, 1), deliver(0, 0, 0), read(1, 30), write(0, words(30)), drop(0, 0, 0), tick(0, 3000), flush(0), read(1, 300), flush(0), write(0, words(90)), shut(0), flush(0), read(1, 300), abort(1), read(0, 9), flush(paths-1), flush(0), read(0, 9))
			carriesAll(t, s)
		}
	}
}

// P16.4: the bounds of offsets, of buffers and of retries.
func TestBounds(t *testing.T) {
	for _, change := range []func(*api.Config){
		func(c *api.Config) { c.Base = [2]uint64{1 << 62, 1<<62 - 5} },
		func(c *api.Config) { c.Base = [2]uint64{1<<62 - 20, 1 << 62}; c.RecvBuf = 65536 },
		func(c *api.Config) { c.SendBuf = 1 },
		func(c *api.Config) { c.Mss, c.RecvBuf, c.SendBuf = 1024, 65536, 65536 },
		func(c *api.Config) { c.Mss, c.RecvBuf, c.SendBuf = 1024, 1024, 65536 },
		func(c *api.Config) { c.Keys = [2]uint64{} },
		func(c *api.Config) { c.Gaps, c.Bag = 1, 1 },
	} {
		begin := []api.Step{write(0, words(5000)), write(1, words(50)), flush(0), read(1, 99), flush(1), read(0, 99), write(0, words(5000)), shut(0), shut(1), flush(1), read(1, 66000), flush(0), read(1, 66000), read(0, 66000)}
		for _, end := range [][]api.Step{{abort(0), flush(0)}, {abort(1)}, dying(0), append(dying(1), flush(1)), nil} {
			carriesAll(t, scriptOf(config(change), slices.Concat(begin, end, []api.Step{read(0, 1), read(1, 1), shut(0), write(1, "x")})...))
		}
	}
}

// P16.4: however many strikes a death takes, with something under way or nothing.
func TestDeaths(t *testing.T) {
	for retries := 1; retries <= api.MaxRetries; retries++ {
		for _, text := range []string{"", "abcdefgh"} {
			c := config(func(c *api.Config) { c.Retries = retries })
			s := scriptOf(c, write(0, text))
			s.Steps = append(s.Steps, slices.Repeat([]api.Step{tick(0, 60000), tick(1, 60000)}, 2*retries+3)...)
			s.Steps = append(s.Steps, read(0, 1), read(1, 1))
			r := harness.Run(s)
			if n := len(r.Trace); r.Trace[n-1].Err != api.ErrDead || r.Trace[n-2].Err != api.ErrDead {
				t.Fatalf("retries %d: %+v", retries, r.Trace)
			}
			carriesAll(t, s)
		}
	}
}

// forgedAs is the spoilings that make another frame of the one at a place of A's bag on path 0.
func forgedAs(t *testing.T, w *harness.World, k int, change func(*api.Frame)) []api.Step {
	t.Helper()
	p := w.Bag(0, 0)[k]
	f, _ := wire.Decode(p.Bytes)
	change(&f)
	b, bad := wire.Encode(f)
	if bad != api.OK || len(b) != len(p.Bytes) {
		t.Fatalf("%+v: %v", f, bad)
	}
	var l []api.Step
	for at := range b {
		if b[at] != p.Bytes[at] {
			l = append(l, api.Step{Kind: api.StepSpoil, N: k, At: at, Mask: b[at] ^ p.Bytes[at]})
		}
	}
	return l
}

// P16.1 to P16.3: a forged byte stands where B's world would have A's end. So B dies in the given script, and in a made one it is done and never does: the calls are the same, and it ends.
func TestForgedDone(t *testing.T) {
	s := api.Script{Config: config(func(c *api.Config) { c.Paths = 1 })}
	w := open(t, s.Config)
	do := func(l ...api.Step) {
		for _, x := range l {
			w.Do(x)
			s.Steps = append(s.Steps, x)
		}
	}
	do(write(0, "abcd"), shut(1), api.Step{Kind: api.StepDouble}, deliver(0, 0, 0), shut(0))
	do(forgedAs(t, w, 0, func(f *api.Frame) { f.Off++ })...)
	do(flush(0))
	do(dying(1)...)
	do(read(1, 1), write(1, "x"), flush(0), read(0, 9), read(1, 2), shut(1), abort(0), flush(0), read(0, 1))
	if w.Forged() == 0 || w.Stat(1).Err != api.ErrDead || w.Stat(0).Err != api.ErrReset {
		t.Fatalf("forged %d: %+v, %+v", w.Forged(), w.Stat(0), w.Stat(1))
	}
	for _, to := range targets {
		out := carries(t, s, to, 2)
		if r := harness.Run(out); !r.Stats[1].Done {
			t.Errorf("%+v", r.Stats[1])
		}
	}
}

// P16.6: what is handed in is neither changed nor kept, and nothing of it is shared with what is given.
func TestMemory(t *testing.T) {
	roomy := func(text string) []byte {
		return append([]byte(text), "spare"...)[:len(text)]
	}
	build := func() api.Script {
		c := config(func(c *api.Config) {
			c.Sched, c.Weights = api.Replay, append(make([]int, 0, 9), 2, 1)
			c.Picks[0] = append(make([]api.Pick, 0, 9), api.Pick{Path: 0, Off: 0, Len: 4}, api.Pick{Path: 1, Off: 4, Len: 4})
			c.Picks[1] = append(make([]api.Pick, 0, 9), api.Pick{Path: 0, Off: 1000, Len: 4})
		})
		s := scriptOf(c, write(0, ""), write(1, ""), flush(0), flush(1), read(1, 9), abort(0), write(0, ""), read(1, 1))
		for i := range s.Steps {
			switch s.Steps[i].Kind {
			case api.StepWrite, api.StepRead:
				s.Steps[i].Data = roomy("abcdefgh")
			}
		}
		return s
	}
	for _, to := range targets {
		s, want := build(), build()
		out, bad := carry.Over(s, to, 2)
		if bad != api.OK || !reflect.DeepEqual(s, want) {
			t.Fatalf("%v: %+v", bad, s)
		}
		for _, x := range s.Steps {
			if x.Data != nil && string(x.Data[:cap(x.Data)])[8:13] != "spare" {
				t.Errorf("%q", x.Data[:cap(x.Data)])
			}
		}
		again, _ := carry.Over(s, to, 2)
		scribble(&s)
		if !reflect.DeepEqual(out, again) {
			t.Errorf("%+v, want %+v", out, again)
		}
		scribble(&out)
		if third, _ := carry.Over(want, to, 2); !reflect.DeepEqual(third, again) {
			t.Errorf("%+v, want %+v", third, again)
		}
		if !reflect.DeepEqual(want, build()) {
			t.Errorf("%+v", want)
		}
	}
}

// scribble writes over all memory of a script, spare room too.
func scribble(s *api.Script) {
	for _, x := range s.Steps[:cap(s.Steps)] {
		for i := range x.Data[:cap(x.Data)] {
			x.Data[:cap(x.Data)][i] = '!'
		}
	}
	for i := range s.Steps[:cap(s.Steps)] {
		s.Steps[:cap(s.Steps)][i] = api.Step{Kind: 77}
	}
	for i := range s.Config.Weights[:cap(s.Config.Weights)] {
		s.Config.Weights[:cap(s.Config.Weights)][i] = -1
	}
	for _, l := range s.Config.Picks {
		for i := range l[:cap(l)] {
			l[:cap(l)][i].Path = -9
		}
	}
}

// P16.6: two lists of one answer share no memory.
func TestDataApart(t *testing.T) {
	text := []byte("abcdefgh")
	s := api.Script{Config: config(), Steps: []api.Step{{Kind: api.StepWrite, Data: text}, {Kind: api.StepWrite, Data: text}, {Kind: api.StepWrite, Side: 1, Data: text[2:]}}}
	out := carries(t, s, api.MinRtt, 1)
	for i := range out.Steps {
		for k := range out.Steps[i].Data {
			out.Steps[i].Data[k] = byte('0' + i)
		}
	}
	for i, x := range out.Steps {
		if strings.Trim(string(x.Data), string(rune('0'+i))) != "" {
			t.Errorf("%d: %q", i, x.Data)
		}
	}
	if string(text) != "abcdefgh" {
		t.Errorf("%q", text)
	}
}
