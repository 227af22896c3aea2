package rtt_test

import (
	"math"
	"testing"

	"braid/api"
	"braid/rtt"
)

// look is all that an Est tells.
type look struct {
	srtt, dev, rto uint64
	known          bool
	backs          int
}

func lookAt(t *testing.T, e *rtt.Est) look {
	t.Helper()
	srtt, known := e.Srtt()
	dev, same := e.Var()
	if known != same {
		t.Fatalf("Srtt tells %v, Var %v", known, same)
	}
	return look{srtt, dev, e.Rto(), known, e.Backs()}
}

func is(t *testing.T, what string, e *rtt.Est, want look) {
	t.Helper()
	if got := lookAt(t, e); got != want {
		t.Errorf("%s: %+v, want %+v", what, got, want)
	}
}

// sampled is a new Est that was told these samples.
func sampled(list ...uint64) *rtt.Est {
	e := rtt.New()
	for _, ms := range list {
		e.Sample(ms)
	}
	return e
}

func back(e *rtt.Est, times int) {
	for range times {
		e.Back()
	}
}

// P5.1, P5.3, P5.4: nothing is known ahead of the first sample.
func TestNew(t *testing.T) {
	is(t, "New", rtt.New(), look{rto: 1000})
}

// P5.2 to P5.4: the chapter's row of samples, with what comes behind each.
func TestSamples(t *testing.T) {
	e := rtt.New()
	for _, c := range []struct {
		ms   uint64
		want look
	}{
		{100, look{100, 50, 300, true, 0}},
		{100, look{100, 37, 250, true, 0}},
		{200, look{112, 53, 325, true, 0}},
		{0, look{98, 68, 370, true, 0}},
	} {
		e.Sample(c.ms)
		is(t, "sample", e, c.want)
	}
	is(t, "8, 9", sampled(8, 9), look{8, 3, 200, true, 0})
	is(t, "9, 8", sampled(9, 8), look{8, 3, 200, true, 0})
	is(t, "400, 0", sampled(400, 0), look{350, 250, 1350, true, 0})
}

// P5.2: parts of a ms add up, though Srtt tells whole ones.
func TestPartsAreKept(t *testing.T) {
	e := sampled(8)
	for i := 1; i <= 8; i++ {
		e.Sample(9)
		want := uint64(8)
		if i == 8 {
			want = 9
		}
		if got, _ := e.Srtt(); got != want {
			t.Errorf("behind %d samples of 9: %d, want %d", i, got, want)
		}
	}
}

// P5.2 to P5.4: a sample of 0 is a sample, and the second one is not taken for the first.
func TestZeroSample(t *testing.T) {
	is(t, "0", sampled(0), look{0, 0, 200, true, 0})
	is(t, "0, 0", sampled(0, 0), look{0, 0, 200, true, 0})
	is(t, "0, 800", sampled(0, 800), look{100, 200, 900, true, 0})
}

// P5.2: what lies above MaxRto counts as MaxRto, as the first sample and as a later one.
func TestGreatSamples(t *testing.T) {
	for _, ms := range []uint64{api.MaxRto, api.MaxRto + 1, 70000, 1 << 32, 1<<63 - 1, 1 << 63, math.MaxUint64 / 8, math.MaxUint64} {
		is(t, "first", sampled(ms), look{60000, 30000, 60000, true, 0})
		is(t, "behind 0", sampled(0, ms), look{7500, 15000, 60000, true, 0})
		is(t, "behind 100", sampled(100, ms), look{7587, 15012, 60000, true, 0})
	}
	is(t, "one less than MaxRto", sampled(api.MaxRto-1), look{59999, 29999, 60000, true, 0})
}

// P5.4: where MinRto and MaxRto begin to hold.
func TestRtoBounds(t *testing.T) {
	for _, c := range []struct{ ms, want uint64 }{
		{1, 200}, {66, 200}, {67, 201}, {68, 204}, {333, 999}, {19999, 59997}, {20000, 60000}, {20001, 60000},
	} {
		if got := sampled(c.ms).Rto(); got != c.want {
			t.Errorf("Rto behind %d: %d, want %d", c.ms, got, c.want)
		}
	}
}

// P5.4: Rto stays above the smoothed time, however small the deviation has become.
func TestRtoIsAboveSrtt(t *testing.T) {
	// The deviation sinks to 3 and stays there, as 3 / 4 is 0; a sample that is one off lifts it to 4, the next one takes 1 away.
	e := sampled(1000)
	for range 60 {
		e.Sample(1000)
	}
	is(t, "calm", e, look{1000, 0, 1003, true, 0})
	e.Sample(1001)
	is(t, "one off", e, look{1000, 1, 1004, true, 0})
	e.Sample(1000)
	is(t, "and back", e, look{1000, 0, 1003, true, 0})
}

// P5.4, P5.5: doublings ahead of the first sample.
func TestBackAheadOfSamples(t *testing.T) {
	e := rtt.New()
	for i, want := range []uint64{2000, 4000, 8000, 16000, 32000, 60000, 60000} {
		e.Back()
		is(t, "Back", e, look{rto: want, backs: i + 1})
	}
	e.Calm()
	is(t, "Calm", e, look{rto: 1000})
}

// P5.4, P5.5: doublings behind samples, up to sixteen and no further.
func TestBackBehindSamples(t *testing.T) {
	e := sampled(0)
	for i := 1; i <= 40; i++ {
		e.Back()
		is(t, "Back", e, look{0, 0, min(uint64(200)<<i, 60000), true, min(i, 16)})
	}
	e.Calm()
	is(t, "Calm", e, look{0, 0, 200, true, 0})
	e.Calm()
	is(t, "Calm twice", e, look{0, 0, 200, true, 0})
	e.Back()
	is(t, "Back behind Calm", e, look{0, 0, 400, true, 1})
}

// P5.4, P5.5: sixteen Backs and more at the greatest deviation too.
func TestBackBehindGreatSamples(t *testing.T) {
	e := rtt.New()
	for i := range 1000 {
		e.Sample(uint64(i%2) * math.MaxUint64)
		e.Back()
		if e.Rto() != api.MaxRto && i > 0 {
			t.Fatalf("Rto behind %d samples: %d", i+1, e.Rto())
		}
	}
	if e.Backs() != 16 {
		t.Errorf("Backs %d", e.Backs())
	}
}

// P5.2: a sample leaves the doublings; the first one too, and it is still the first.
func TestSampleKeepsBacks(t *testing.T) {
	e := rtt.New()
	back(e, 2)
	e.Sample(100)
	is(t, "Back, Back, 100", e, look{100, 50, 1200, true, 2})
	e.Sample(100)
	is(t, "and 100", e, look{100, 37, 1000, true, 2})
	e.Calm()
	is(t, "Calm", e, look{100, 37, 250, true, 0})
}

// P5.1, P5.3: doublings that were taken back leave nothing known.
func TestCalmKnowsNothing(t *testing.T) {
	e := rtt.New()
	back(e, 20)
	is(t, "twenty Backs", e, look{rto: 60000, backs: 16})
	e.Calm()
	is(t, "Calm", e, look{rto: 1000})
	e.Sample(100)
	is(t, "first sample", e, look{100, 50, 300, true, 0})
}

// Rule 0.3: two Ests know nothing of one another, and to ask changes nothing.
func TestApart(t *testing.T) {
	e, other := rtt.New(), rtt.New()
	e.Sample(100)
	e.Back()
	is(t, "the other one", other, look{rto: 1000})
	is(t, "a newer one", rtt.New(), look{rto: 1000})
	for range 3 {
		is(t, "asked again", e, look{100, 50, 600, true, 1})
	}
}

// P5.8: samples that are all one ms.
func TestSteady(t *testing.T) {
	step := uint64(1)
	if testing.Short() {
		step = 97
	}
	for ms := uint64(0); ms <= api.MaxRto+step; ms += step {
		e := rtt.New()
		for range 60 {
			e.Sample(ms)
			if got, known := e.Srtt(); got != min(ms, api.MaxRto) || !known {
				t.Fatalf("Srtt of %d: %d %v", ms, got, known)
			}
		}
		if dev, _ := e.Var(); dev != 0 {
			t.Fatalf("Var of %d: %d", ms, dev)
		}
		if got := e.Rto(); got < api.MinRto || got > max(api.MinRto, ms+3) || got < min(ms+1, api.MaxRto) {
			t.Fatalf("Rto of %d: %d", ms, got)
		}
	}
}
