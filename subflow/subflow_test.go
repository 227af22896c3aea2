package subflow_test

import (
	"math"
	"slices"
	"testing"

	"braid/api"
	"braid/subflow"
)

const end = math.MaxUint64

// spans takes the bounds of ranges two by two.
func spans(bounds ...uint64) []api.Range {
	var l []api.Range
	for i := 0; i+1 < len(bounds); i += 2 {
		l = append(l, api.Range{Lo: bounds[i], Hi: bounds[i+1]})
	}
	return l
}

func nums(l []api.Item) []uint64 {
	var n []uint64
	for _, x := range l {
		n = append(n, x.Num)
	}
	return n
}

func is[T comparable](t *testing.T, what string, got, want T) {
	t.Helper()
	if got != want {
		t.Errorf("%s: %v, want %v", what, got, want)
	}
}

func wantNums(t *testing.T, what string, l []api.Item, want ...uint64) {
	t.Helper()
	if !slices.Equal(nums(l), want) {
		t.Errorf("%s: %v, want numbers %v", what, l, want)
	}
}

func wantHeard(t *testing.T, what string, h api.Heard, acked, lost []uint64, cut bool) {
	t.Helper()
	wantNums(t, what+": Acked", h.Acked, acked...)
	wantNums(t, what+": Lost", h.Lost, lost...)
	is(t, what+": Cut", h.Cut, cut)
}

func wantDeadline(t *testing.T, what string, f *subflow.Flow, want uint64, runs bool) {
	t.Helper()
	if d, ok := f.Deadline(); d != want || ok != runs {
		t.Errorf("%s: Deadline %d %v, want %d %v", what, d, ok, want, runs)
	}
}

func wantSrtt(t *testing.T, what string, f *subflow.Flow, want uint64, known bool) {
	t.Helper()
	if s, ok := f.Srtt(); s != want || ok != known {
		t.Errorf("%s: Srtt %d %v, want %d %v", what, s, ok, want, known)
	}
}

// after is a Flow that has sent so many frames of data at one moment.
func after(now uint64, frames int) *subflow.Flow {
	f := subflow.New(2)
	for i := range frames {
		f.Send(now, api.KindData, uint64(10*i), 10)
	}
	return f
}

// strike lets the timer fire once.
func strike(t *testing.T, f *subflow.Flow, now uint64) {
	t.Helper()
	f.Send(now, api.KindProbe, 0, 0)
	if l, ok := f.Tick(now + api.MaxRto); !ok || len(l) == 0 {
		t.Fatalf("Tick(%d): %v %v", now+api.MaxRto, l, ok)
	}
}

// P7.1
func TestNew(t *testing.T) {
	for _, retries := range []int{math.MinInt, -1, 0, 1, 2, 16, 17, math.MaxInt} {
		f := subflow.New(retries)
		is(t, "New", lookAt(f), look{rto: 1000})
		wantNums(t, "Items", f.Items())
		if l, ok := f.Tick(end); len(l) != 0 || ok {
			t.Errorf("Tick of one that has sent nothing: %v %v", l, ok)
		}
		is(t, "behind it", lookAt(f), look{rto: 1000})
	}
}

// P7.1 and P7.6: Dead is above retries, Gone above twice of them; retries are 1 to MaxRetries.
func TestRetries(t *testing.T) {
	for _, c := range []struct{ retries, as int }{
		{math.MinInt, 1}, {-1, 1}, {0, 1}, {1, 1}, {2, 2}, {7, 7}, {15, 15}, {16, 16}, {17, 16}, {1 << 62, 16}, {math.MaxInt, 16},
	} {
		f := subflow.New(c.retries)
		for n := range 40 {
			if f.Strikes() != n || f.Dead() != (n > c.as) || f.Gone() != (n > 2*c.as) {
				t.Errorf("retries %d: %d strikes, want %d; dead %v, gone %v", c.retries, f.Strikes(), n, f.Dead(), f.Gone())
			}
			strike(t, f, 0)
		}
		f.Wake()
		if f.Strikes() != 0 || f.Dead() || f.Gone() {
			t.Errorf("retries %d, awake: %d strikes, dead %v, gone %v", c.retries, f.Strikes(), f.Dead(), f.Gone())
		}
	}
}

// P7.2: an item is as it was given, and numbers rise by one, whatever became of those ahead.
func TestSend(t *testing.T) {
	f := subflow.New(2)
	var want []api.Item
	for i, c := range []api.Item{
		{Kind: api.KindData, Off: 10, Len: 5, At: 3},
		{Kind: api.KindFin, Off: 15, At: 3},
		{Kind: api.KindProbe, At: 9},
		{Kind: math.MinInt, Off: end, Len: math.MinInt, At: end},
		{Kind: math.MaxInt, Off: 1 << 63, Len: math.MaxInt, At: 0},
		{Kind: -1, Len: -1, At: 4},
	} {
		c.Num = uint64(i)
		is(t, "Next", f.Next(), c.Num)
		is(t, "Send", f.Send(c.At, c.Kind, c.Off, c.Len), c.Num)
		is(t, "Next behind it", f.Next(), c.Num+1)
		is(t, "Last", f.Last(), c.At)
		is(t, "Inflight", f.Inflight(), i+1)
		want = append(want, c)
		if !slices.Equal(f.Items(), want) {
			t.Fatalf("Items %v, want %v", f.Items(), want)
		}
	}
	if h := f.Acked(5, spans(3, 6)); !slices.Equal(h.Acked, want[3:]) || !slices.Equal(h.Lost, want[:3]) {
		t.Errorf("told: %v", h)
	}
	is(t, "Send of a new one", f.Send(5, api.KindData, 10, 5), 6)
	is(t, "Last", f.Last(), 5)
	f.Tick(end)
	is(t, "Send behind Tick", f.Send(5, api.KindData, 10, 5), 7)
}

// P7.2: the mark is the now of a Send alone that found nothing under way.
func TestMark(t *testing.T) {
	f := subflow.New(2)
	f.Send(50, api.KindData, 0, 1)
	wantDeadline(t, "the first", f, 1050, true)
	f.Send(70, api.KindData, 1, 1)
	wantDeadline(t, "the second", f, 1050, true)
	f.Send(20, api.KindData, 2, 1)
	wantDeadline(t, "one with a lesser now", f, 1050, true)
	f.Acked(90, spans(0, 3))
	wantDeadline(t, "nothing under way", f, 0, false)
	f.Send(30, api.KindData, 3, 1)
	wantDeadline(t, "the first again", f, 30+f.Rto(), true)
	f.Acked(10, spans(3, 4))
	f.Send(0, api.KindData, 3, 1)
	wantDeadline(t, "at 0", f, f.Rto(), true)
}

// P7.3: what is heard moves the mark, back too; what is not new moves nothing.
func TestAckedMovesMark(t *testing.T) {
	f := after(100, 3)
	f.Acked(140, spans(1, 2))
	wantDeadline(t, "heard", f, 340, true)
	f.Acked(180, spans(1, 2))
	wantDeadline(t, "heard again", f, 340, true)
	f.Acked(190, nil)
	f.Acked(190, spans(3, 90))
	wantDeadline(t, "nothing that was sent", f, 340, true)
	f.Acked(60, spans(0, 1))
	wantDeadline(t, "a now that is less", f, 60+f.Rto(), true)
}

// P7.3: a loss alone is no sample and moves no mark; an acknowledgement of what is lost neither.
func TestAckedOfLostIsNoSample(t *testing.T) {
	f := after(0, 5)
	wantHeard(t, "the last but one", f.Acked(10, spans(3, 4)), []uint64{3}, []uint64{0}, true)
	wantSrtt(t, "one sample", f, 10, true)
	wantDeadline(t, "one sample", f, 210, true)
	wantHeard(t, "the lost one", f.Acked(5000, spans(0, 1)), nil, nil, false)
	wantSrtt(t, "one sample still", f, 10, true)
	wantDeadline(t, "one sample still", f, 210, true)
	wantNums(t, "under way", f.Items(), 1, 2, 4)
}

// P7.3: the sample is of the last item that is told, not of the one that was sent last or the oldest.
func TestSample(t *testing.T) {
	f := subflow.New(2)
	for _, at := range []uint64{0, 100, 900, 400} {
		f.Send(at, api.KindData, 0, 1)
	}
	f.Acked(1000, spans(2, 3, 0, 1, 1, 2))
	wantSrtt(t, "the last of three", f, 100, true)
	f = subflow.New(2)
	f.Send(500, api.KindData, 0, 1)
	f.Acked(499, spans(0, 1))
	wantSrtt(t, "ahead of its time", f, 0, true)
	is(t, "Rto", f.Rto(), 200)
	f = subflow.New(2)
	f.Send(500, api.KindData, 0, 1)
	f.Acked(500, spans(0, 1))
	wantSrtt(t, "at its time", f, 0, true)
	f = subflow.New(2)
	f.Send(end, api.KindData, 0, 1)
	f.Acked(0, spans(0, 1))
	wantSrtt(t, "at the ends", f, 0, true)
	f = subflow.New(2)
	f.Send(0, api.KindData, 0, 1)
	f.Acked(end, spans(0, 1))
	wantSrtt(t, "as late as may be", f, api.MaxRto, true)
}

// P7.3: two samples are two calls; a call has one sample at most.
func TestOneSampleACall(t *testing.T) {
	f := after(0, 2)
	f.Acked(80, spans(0, 2))
	is(t, "one sample", f.Rto(), 80+160)
	f = after(0, 2)
	f.Acked(80, spans(0, 1))
	f.Acked(80, spans(1, 2))
	is(t, "two samples", f.Rto(), 80+120)
}

// P7.3: ranges in any order, overlapping, empty, of numbers that nobody has.
func TestAckedRanges(t *testing.T) {
	for _, c := range []struct {
		what  string
		l     []api.Range
		acked []uint64
	}{
		{"none", nil, nil},
		{"no range", []api.Range{}, nil},
		{"empty ones", spans(0, 0, 2, 2, 3, 1, end, 0, end, end, 5, 5), nil},
		{"not below Next", spans(5, 6, 5, end, 6, 100, end-1, end), nil},
		{"one", spans(2, 3), []uint64{2}},
		{"the first", spans(0, 1), []uint64{0}},
		{"the last one and beyond", spans(4, 9), []uint64{4}},
		{"all", spans(0, 5), []uint64{0, 1, 2, 3, 4}},
		{"all numbers", spans(0, end), []uint64{0, 1, 2, 3, 4}},
		{"falling", spans(4, 5, 2, 3, 0, 1), []uint64{0, 2, 4}},
		{"any order", spans(3, 4, 0, 1, 4, 5, 1, 2), []uint64{0, 1, 3, 4}},
		{"overlapping", spans(1, 4, 0, 2, 3, 4, 1, 4), []uint64{0, 1, 2, 3}},
		{"the same", spans(2, 3, 2, 3, 2, 3), []uint64{2}},
		{"empty ones between", spans(4, 3, 3, 4, 1, 1, 2, 3, end, 4), []uint64{2, 3}},
		{"beyond first", spans(7, end, 1, 2), []uint64{1}},
	} {
		f := after(0, 5)
		given := slices.Clone(c.l)
		h := f.Acked(1, c.l)
		wantNums(t, c.what, h.Acked, c.acked...)
		if !slices.Equal(given, c.l) {
			t.Errorf("%s: the list was changed: %v", c.what, c.l)
		}
		is(t, c.what+": told or under way", len(h.Acked)+len(h.Lost)+f.Inflight(), 5)
		wantNums(t, c.what+", heard again", f.Acked(1, c.l).Acked)
	}
}

// P7.3: numbers that are not below Next are not heard, neither later nor as the top.
func TestNotBelowNext(t *testing.T) {
	f := subflow.New(2)
	wantHeard(t, "nothing sent", f.Acked(7, spans(0, 100)), nil, nil, false)
	is(t, "nothing changes", lookAt(f), look{rto: 1000})
	for range 4 {
		f.Send(8, api.KindData, 0, 1)
	}
	wantNums(t, "under way", f.Items(), 0, 1, 2, 3)
	wantHeard(t, "beyond", f.Acked(9, spans(4, 5, 8, end)), nil, nil, false)
	wantHeard(t, "nothing", f.Acked(9, nil), nil, nil, false)
	wantHeard(t, "3 is the top", f.Acked(9, spans(2, 100)), []uint64{2, 3}, []uint64{0}, true)
}

// P7.3: a number and Threshold together at the top, one above it, one below it.
func TestThreshold(t *testing.T) {
	for top := range uint64(9) {
		f := after(0, 9)
		h := f.Acked(1, spans(top, top+1))
		var lost []uint64
		for n := uint64(0); n+3 <= top; n++ {
			lost = append(lost, n)
		}
		wantHeard(t, "one heard", h, []uint64{top}, lost, len(lost) > 0)
		is(t, "under way", f.Inflight(), 8-len(lost))
	}
}

// P7.3: none is lost as long as nothing was heard, and the top stays when less is heard.
func TestTopStays(t *testing.T) {
	f := after(0, 9)
	for range 3 {
		wantHeard(t, "nothing heard", f.Acked(1, nil), nil, nil, false)
	}
	wantHeard(t, "4 heard", f.Acked(1, spans(4, 5)), []uint64{4}, []uint64{0, 1}, true)
	wantHeard(t, "2 heard", f.Acked(2, spans(2, 3)), []uint64{2}, nil, false)
	wantHeard(t, "5 heard", f.Acked(3, spans(5, 6)), []uint64{5}, nil, false)
	wantHeard(t, "8 heard", f.Acked(4, spans(8, 9)), []uint64{8}, []uint64{3}, false)
	wantNums(t, "under way", f.Items(), 6, 7)
}

// P7.3: what is under way no more raises the top too.
func TestTopOfWhatIsNotUnderWay(t *testing.T) {
	f := after(0, 4)
	f.Tick(1000)
	wantHeard(t, "lost by the timer", f.Acked(1001, spans(0, 4)), nil, nil, false)
	f.Send(1001, api.KindData, 0, 1)
	f.Send(1001, api.KindData, 0, 1)
	f.Send(1001, api.KindData, 0, 1)
	wantHeard(t, "4 and 3 is above 6", f.Acked(1002, spans(6, 7)), []uint64{6}, nil, false)
	f.Send(1002, api.KindData, 0, 1)
	wantHeard(t, "4 and 3 is 7", f.Acked(1003, spans(7, 8)), []uint64{7}, []uint64{4}, true)
}

// P7.3: what was sent ahead of the line is one row of losses, and is told once.
func TestLine(t *testing.T) {
	f := after(0, 6)
	wantHeard(t, "the row begins", f.Acked(1, spans(3, 4)), []uint64{3}, []uint64{0}, true)
	wantHeard(t, "it goes on", f.Acked(1, spans(5, 6)), []uint64{5}, []uint64{1, 2}, false)
	for range 5 {
		f.Send(2, api.KindData, 0, 1)
	}
	wantHeard(t, "below the line", f.Acked(3, spans(7, 8)), []uint64{7}, []uint64{4}, false)
	wantHeard(t, "at the line", f.Acked(3, spans(9, 10)), []uint64{9}, []uint64{6}, true)
	wantHeard(t, "none", f.Acked(3, spans(10, 11)), []uint64{10}, nil, false)
	wantNums(t, "under way", f.Items(), 8)
}

// P7.3: one loss that is not below the line is enough, and the line is Next then, not the number.
func TestLineAmongLosses(t *testing.T) {
	f := after(0, 4)
	wantHeard(t, "the first row", f.Acked(1, spans(3, 4)), []uint64{3}, []uint64{0}, true)
	for range 6 {
		f.Send(2, api.KindData, 0, 1)
	}
	wantHeard(t, "1 and 2 are below the line, 4 is at it", f.Acked(3, spans(7, 8)), []uint64{7}, []uint64{1, 2, 4}, true)
	wantHeard(t, "5 and 6 were sent ahead of that", f.Acked(3, spans(9, 10)), []uint64{9}, []uint64{5, 6}, false)
}

// P7.4: the line is Next behind the timer, and no row begins by what was lost with it.
func TestLineOfTick(t *testing.T) {
	f := after(0, 2)
	f.Tick(1000)
	for range 4 {
		f.Send(1000, api.KindData, 0, 1)
	}
	wantHeard(t, "2 is at the line", f.Acked(1001, spans(5, 6)), []uint64{5}, []uint64{2}, true)
	f.Tick(end)
	for range 5 {
		f.Send(2000, api.KindData, 0, 1)
	}
	wantHeard(t, "6 is at the line", f.Acked(2001, spans(9, 10)), []uint64{9}, []uint64{6}, true)
	wantHeard(t, "7 is below it", f.Acked(2001, spans(10, 11)), []uint64{10}, []uint64{7}, false)
}

// P7.4: the timer fires at the mark and Rto together, and not one below it.
func TestTick(t *testing.T) {
	f := after(77, 3)
	for _, now := range []uint64{0, 76, 77, 78, 1000, 1076} {
		if l, ok := f.Tick(now); ok || len(l) != 0 {
			t.Errorf("Tick(%d): %v %v", now, l, ok)
		}
		is(t, "nothing changes", lookAt(f), look{deadline: 1077, runs: true, last: 77, next: 3, inflight: 3, rto: 1000})
	}
	want := f.Items()
	l, ok := f.Tick(1077)
	if !ok || !slices.Equal(l, want) || len(l) != 3 {
		t.Errorf("Tick at the deadline: %v %v", l, ok)
	}
	is(t, "behind it", lookAt(f), look{last: 77, next: 3, strikes: 1, rto: 2000})
	wantNums(t, "Items", f.Items())
	if l, ok := f.Tick(end); ok || len(l) != 0 {
		t.Errorf("Tick with nothing under way: %v %v", l, ok)
	}
	is(t, "behind that", lookAt(f), look{last: 77, next: 3, strikes: 1, rto: 2000})
}

// P7.4: a now below the mark fires nothing, however the numbers wrap round; neither does a mark at the top.
func TestTickBelowMark(t *testing.T) {
	f := after(end-500, 1)
	wantDeadline(t, "above the greatest", f, end, true)
	for _, now := range []uint64{0, 499, 500, 1000, 1 << 63, end - 501, end - 500, end - 1, end} {
		if l, ok := f.Tick(now); ok || len(l) != 0 {
			t.Errorf("Tick(%d): %v %v", now, l, ok)
		}
	}
	is(t, "Strikes", f.Strikes(), 0)
	f = after(end-1000, 1)
	wantDeadline(t, "at the greatest", f, end, true)
	if _, ok := f.Tick(end - 1); ok {
		t.Error("one below it")
	}
	if _, ok := f.Tick(end); !ok {
		t.Error("Tick at the greatest")
	}
	f = after(end-1001, 1)
	wantDeadline(t, "one below the greatest", f, end-1, true)
	f = after(end, 1)
	wantDeadline(t, "the greatest mark", f, end, true)
	if _, ok := f.Tick(end); ok {
		t.Error("Tick at the mark")
	}
}

// P7.4: a later time is as good; and the items come in the order of numbers, however many.
func TestTickOfMany(t *testing.T) {
	f := after(0, 300)
	f.Acked(1, spans(200, 201))
	l, ok := f.Tick(end)
	is(t, "fires", ok, true)
	var want []uint64
	for n := uint64(198); n < 300; n++ {
		if n != 200 {
			want = append(want, n)
		}
	}
	wantNums(t, "Tick", l, want...)
}

// P7.4 and P7.5: each strike doubles Rto; Wake takes strikes and doublings, and nothing else.
func TestWake(t *testing.T) {
	f := subflow.New(3)
	for n, rto := range []uint64{2000, 4000, 8000, 16000, 32000, 60000, 60000} {
		strike(t, f, 0)
		is(t, "Strikes", f.Strikes(), n+1)
		is(t, "Rto", f.Rto(), rto)
	}
	f.Send(9, api.KindData, 4, 2)
	f.Wake()
	is(t, "awake", lookAt(f), look{deadline: 1009, runs: true, last: 9, next: 8, inflight: 1, rto: 1000})
	is(t, "Gone", f.Gone(), false)
	wantHeard(t, "heard", f.Acked(49, spans(7, 8)), []uint64{7}, nil, false)
	strike(t, f, 50)
	is(t, "Rto of a sample", f.Rto(), 400)
	f.Wake()
	is(t, "Rto awake", f.Rto(), 200)
	wantSrtt(t, "the sample stays", f, 40, true)
	f.Wake()
	is(t, "Strikes awake twice", f.Strikes(), 0)
}

// P7.3 and P7.5: an acknowledgement takes neither strikes nor doublings away.
func TestAckedIsNoWake(t *testing.T) {
	f := subflow.New(1)
	strike(t, f, 0)
	strike(t, f, 0)
	f.Send(5, api.KindProbe, 0, 0)
	f.Acked(105, spans(2, 3))
	is(t, "Strikes", f.Strikes(), 2)
	is(t, "Dead", f.Dead(), true)
	is(t, "Rto", f.Rto(), 4*300)
}

// P7.6: Last is the now of the last Send, whatever else is called, and may fall.
func TestLast(t *testing.T) {
	f := after(30, 2)
	f.Acked(99, spans(0, 1))
	f.Tick(5000)
	f.Wake()
	is(t, "Last", f.Last(), 30)
	f.Send(end, api.KindProbe, 0, 0)
	is(t, "Last at the end", f.Last(), end)
	f.Send(4, api.KindProbe, 0, 0)
	is(t, "Last, less", f.Last(), 4)
}

// P7.7
func TestGot(t *testing.T) {
	s := subflow.NewSeen()
	if l := s.Ranges(); len(l) != 0 {
		t.Errorf("NewSeen: %v", l)
	}
	for _, c := range []struct {
		num   uint64
		fresh bool
		l     []api.Range
	}{
		{end, false, nil},
		{4, true, spans(4, 5)},
		{4, false, spans(4, 5)},
		{6, true, spans(4, 5, 6, 7)},
		{5, true, spans(4, 7)},
		{5, false, spans(4, 7)},
		{0, true, spans(0, 1, 4, 7)},
		{0, false, spans(0, 1, 4, 7)},
		{end, false, spans(0, 1, 4, 7)},
		{end - 1, true, spans(0, 1, 4, 7, end-1, end)},
		{end - 1, false, spans(0, 1, 4, 7, end-1, end)},
		{end, false, spans(0, 1, 4, 7, end-1, end)},
		{1 << 62, true, spans(0, 1, 4, 7, 1<<62, 1<<62+1, end-1, end)},
		{3, true, spans(0, 1, 3, 7, 1<<62, 1<<62+1, end-1, end)},
		{7, true, spans(0, 1, 3, 8, 1<<62, 1<<62+1, end-1, end)},
	} {
		is(t, "Got", s.Got(c.num), c.fresh)
		if !slices.Equal(s.Ranges(), c.l) {
			t.Fatalf("behind Got(%d): %v, want %v", c.num, s.Ranges(), c.l)
		}
	}
}

// P7.7: eight stretches are told, of nine the lowest is not; and it is there still.
func TestRangesOfMany(t *testing.T) {
	s := subflow.NewSeen()
	var all []api.Range
	for n := uint64(0); n < 32; n++ {
		s.Got(10 * n)
		all = append(all, api.Range{Lo: 10 * n, Hi: 10*n + 1})
		want := all
		if len(want) > 8 {
			want = want[len(want)-8:]
		}
		if !slices.Equal(s.Ranges(), want) {
			t.Fatalf("%d stretches: %v, want %v", n+1, s.Ranges(), want)
		}
	}
	for n := uint64(0); n < 32; n++ {
		is(t, "Got again", s.Got(10*n), false)
	}
	// Two stretches become one: the ninth is told again.
	for x := uint64(301); x < 310; x++ {
		is(t, "Got between", s.Got(x), true)
	}
	want := append(slices.Clone(all[23:30]), api.Range{Lo: 300, Hi: 311})
	if !slices.Equal(s.Ranges(), want) {
		t.Errorf("joined: %v, want %v", s.Ranges(), want)
	}
}

// seen32 is a Seen with the stretches [100, 103), [110, 111), [120, 121) to [410, 411).
func seen32() *subflow.Seen {
	s := subflow.NewSeen()
	for n := uint64(10); n < 42; n++ {
		s.Got(10 * n)
	}
	s.Got(101)
	s.Got(102)
	return s
}

// P7.7: of 33 stretches the lowest is forgotten, all of it, and counts as not there.
func TestForgotten(t *testing.T) {
	s := seen32()
	is(t, "one more", s.Got(420), true)
	for _, num := range []uint64{110, 120, 410, 420} {
		is(t, "there", s.Got(num), false)
	}
	// [110, 111) is the lowest now: what comes below it is forgotten as soon as it has come.
	for range 3 {
		for _, num := range []uint64{100, 101, 102, 0, 108} {
			is(t, "forgotten", s.Got(num), true)
		}
	}
	is(t, "110 is there still", s.Got(110), false)
	is(t, "beside the lowest", s.Got(109), true)
	is(t, "beside it again", s.Got(109), false)
}

// P7.7: 32 stretches are all kept, and what joins two makes room for one.
func TestNoneForgottenOf32(t *testing.T) {
	s := seen32()
	for _, num := range []uint64{100, 101, 102, 110, 410} {
		is(t, "there", s.Got(num), false)
	}
	for x := uint64(401); x < 410; x++ {
		s.Got(x)
	}
	is(t, "31 and one more", s.Got(500), true)
	is(t, "the lowest is there", s.Got(100), false)
	is(t, "32 and one between", s.Got(115), true)
	is(t, "the lowest was forgotten", s.Got(100), true)
	is(t, "not the one between", s.Got(115), false)
}

// P7.7: the greatest number that may be is no reason to forget.
func TestGotEndForgetsNothing(t *testing.T) {
	s := seen32()
	want := s.Ranges()
	for range 3 {
		is(t, "Got", s.Got(end), false)
	}
	if !slices.Equal(s.Ranges(), want) {
		t.Errorf("%v, want %v", s.Ranges(), want)
	}
	is(t, "the lowest is there", s.Got(100), false)
}

// P7.9: whatever is heard later, each number keeps to what was told of it.
func TestFateStays(t *testing.T) {
	f := after(0, 8)
	wantHeard(t, "5 heard", f.Acked(1, spans(5, 6)), []uint64{5}, []uint64{0, 1, 2}, true)
	wantHeard(t, "all heard", f.Acked(1, spans(0, 8)), []uint64{3, 4, 6, 7}, nil, false)
	for range 3 {
		wantHeard(t, "all again", f.Acked(1, spans(0, 8)), nil, nil, false)
	}
	f.Send(2, api.KindData, 0, 1)
	l, _ := f.Tick(end)
	wantNums(t, "Tick", l, 8)
	wantHeard(t, "all and 8", f.Acked(3, spans(0, 9)), nil, nil, false)
}

// P7.10: acknowledged in order, nothing is lost, however many go together and however late.
func TestInOrder(t *testing.T) {
	d := dice(10)
	for range 200 {
		f := subflow.New(1)
		heard, now := uint64(0), uint64(0)
		for range 60 {
			for range d.below(9) {
				f.Send(now, api.KindData, 0, 1)
			}
			now += d.below(2000)
			to := heard + d.below(f.Next()-heard+1)
			from := d.below(heard + 1)
			h := f.Acked(now, spans(from, to))
			if len(h.Lost) != 0 || h.Cut || uint64(len(h.Acked)) != to-heard {
				t.Fatalf("[%d, %d) of %d: %v", from, to, f.Next(), h)
			}
			heard = to
		}
	}
}

// The chapter's examples 1 and 2.
func TestExampleOfLosses(t *testing.T) {
	f := subflow.New(2)
	is(t, "Send", f.Send(0, api.KindData, 10, 5), 0)
	is(t, "Send", f.Send(0, api.KindData, 15, 5), 1)
	is(t, "Send", f.Send(1, api.KindProbe, 0, 0), 2)
	is(t, "Inflight", f.Inflight(), 3)
	wantDeadline(t, "three sent", f, 1000, true)
	h := f.Acked(40, spans(1, 2))
	wantHeard(t, "1", h, []uint64{1}, nil, false)
	is(t, "item 1", h.Acked[0], api.Item{Num: 1, Kind: api.KindData, Off: 15, Len: 5})
	wantSrtt(t, "1", f, 40, true)
	is(t, "Rto", f.Rto(), 200)
	wantDeadline(t, "1", f, 240, true)
	is(t, "Send", f.Send(40, api.KindData, 20, 5), 3)
	h = f.Acked(60, spans(3, 9))
	wantHeard(t, "3", h, []uint64{3}, []uint64{0}, true)
	is(t, "item 0", h.Lost[0], api.Item{Kind: api.KindData, Off: 10, Len: 5})
	wantNums(t, "Items", f.Items(), 2)
	is(t, "Send", f.Send(61, api.KindData, 25, 5), 4)
	wantHeard(t, "4", f.Acked(70, spans(4, 5)), []uint64{4}, nil, false)
	is(t, "Send", f.Send(70, api.KindData, 30, 5), 5)
	h = f.Acked(80, spans(5, 6))
	wantHeard(t, "5", h, []uint64{5}, []uint64{2}, false)
	is(t, "item 2", h.Lost[0], api.Item{Num: 2, Kind: api.KindProbe, At: 1})
}

// The chapter's example 3.
func TestExampleOfStrikes(t *testing.T) {
	g := subflow.New(1)
	is(t, "Send", g.Send(5, api.KindFin, 9, 0), 0)
	l, ok := g.Tick(1004)
	wantNums(t, "one below", l)
	is(t, "one below", ok, false)
	l, ok = g.Tick(1005)
	if !ok || !slices.Equal(l, []api.Item{{Kind: api.KindFin, Off: 9, At: 5}}) {
		t.Errorf("Tick: %v %v", l, ok)
	}
	is(t, "a strike", lookAt(g), look{last: 5, next: 1, strikes: 1, rto: 2000})
	if l, ok = g.Tick(9000); ok || len(l) != 0 {
		t.Errorf("Tick: %v %v", l, ok)
	}
	g.Send(9000, api.KindProbe, 0, 0)
	g.Tick(11000)
	is(t, "two strikes", lookAt(g), look{last: 9000, next: 2, strikes: 2, dead: true, rto: 4000})
	g.Send(11000, api.KindProbe, 0, 0)
	g.Tick(15000)
	is(t, "three strikes", lookAt(g), look{last: 11000, next: 3, strikes: 3, dead: true, gone: true, rto: 8000})
	g.Wake()
	is(t, "awake", lookAt(g), look{last: 11000, next: 3, rto: 1000})
}

// scribble writes over a list and its spare room.
func scribble[T any](l []T) {
	var zero T
	l = l[:cap(l)]
	for i := range l {
		l[i] = zero
	}
}

// Rule 0.4: what was handed out is the caller's, its spare room too, and what was handed in is not kept or changed.
func TestNothingShared(t *testing.T) {
	f := after(7, 12)
	scribble(f.Items())
	wantNums(t, "Items", f.Items(), 0, 1, 2, 3, 4, 5, 6, 7, 8, 9, 10, 11)
	room := spans(9, 10, 8, 9, 10, 11, 3, 1)
	given := slices.Clone(room)
	h := f.Acked(9, room[:2])
	if !slices.Equal(room, given) {
		t.Errorf("the list and its spare room: %v, want %v", room, given)
	}
	scribble(room)
	scribble(h.Acked)
	wantNums(t, "Lost beside Acked", h.Lost, 0, 1, 2, 3, 4, 5, 6)
	scribble(h.Lost)
	wantNums(t, "Items", f.Items(), 7, 10, 11)
	h = f.Acked(9, spans(7, 8))
	wantNums(t, "Acked", h.Acked, 7)
	is(t, "its clock", h.Acked[0].At, 7)
	l, _ := f.Tick(end)
	scribble(l)
	f.Send(5, api.KindFin, 3, 0)
	if got := f.Items(); !slices.Equal(got, []api.Item{{Num: 12, Kind: api.KindFin, Off: 3, At: 5}}) {
		t.Errorf("Items %v", got)
	}
	s := seen32()
	want := slices.Clone(s.Ranges())
	scribble(s.Ranges())
	if !slices.Equal(s.Ranges(), want) {
		t.Errorf("Ranges %v, want %v", s.Ranges(), want)
	}
}

// Rule 0.3: two objects know nothing of one another, and looking changes nothing.
func TestApart(t *testing.T) {
	f, g := after(0, 6), after(0, 6)
	f.Acked(50, spans(4, 5))
	f.Tick(end)
	f.Wake()
	is(t, "the other one", lookAt(g), look{deadline: 1000, runs: true, next: 6, inflight: 6, rto: 1000})
	wantHeard(t, "the other one", g.Acked(50, spans(2, 3)), []uint64{2}, nil, false)
	is(t, "looked at twice", lookAt(g), lookAt(g))
	s, r := seen32(), subflow.NewSeen()
	is(t, "the other Seen", len(r.Ranges()), 0)
	r.Got(5)
	is(t, "the first one", s.Ranges()[0], api.Range{Lo: 340, Hi: 341})
}

// 256 frames are the most that a path has; far more are told all the same.
func TestVeryMany(t *testing.T) {
	const n = 50000
	f := after(0, n)
	h := f.Acked(1, spans(n-1, end, 0, 10))
	is(t, "Acked", len(h.Acked), 11)
	is(t, "Lost", len(h.Lost), n-13)
	wantNums(t, "under way", f.Items(), n-3, n-2)
	is(t, "Cut", h.Cut, true)
}
