package harness_test

import (
	"bytes"
	"testing"

	"braid/api"
	"braid/harness"
)

// told is an event, without its bytes, and the kind of its frame.
type told struct {
	what, side, path int
	clock            uint64
	kind             int
}

// kinds tells events; a frame that can't be read has the kind 0.
func kinds(l []api.Event) []told {
	var out []told
	for _, e := range l {
		kind := 0
		if len(e.Bytes) > 0 && readable(e.Bytes) {
			kind = int(e.Bytes[0])
		}
		out = append(out, told{e.What, e.Side, e.Path, e.Clock, kind})
	}
	return out
}

// tells fails unless the events behind the first so many are these.
func tells(t *testing.T, w *harness.World, from int, want ...told) {
	t.Helper()
	l := w.Log()
	if len(l) < from {
		t.Fatalf("%d events", len(l))
	}
	got := kinds(l[from:])
	if len(got) != len(want) {
		t.Fatalf("%+v, want %+v", got, want)
	}
	for i := range got {
		if got[i] != want[i] {
			t.Fatalf("event %d: %+v, want %+v", from+i, got[i], want[i])
		}
	}
}

// P15.10: each kind of step, with the clocks of the two sides apart.
func TestLog(t *testing.T) {
	w := open(t, with(func(c *api.Config) { c.Bag = 4 }), tick(0, 5), tick(1, 70), write(0, "abcdefgh"))
	tells(t, w, 0, told{api.EventSent, 0, 0, 5, api.KindData}, told{api.EventSent, 0, 0, 5, api.KindData})
	w.Do(tick(0, 6))
	w.Do(spoil(0, 0, 1, 20, 3))
	w.Do(spoil(0, 0, 1, 20, 0))
	w.Do(spoil(0, 0, 1, 20, 3))
	tells(t, w, 2, told{api.EventSpoilt, 0, 0, 11, 0}, told{api.EventSpoilt, 0, 0, 11, 0}, told{api.EventSpoilt, 0, 0, 11, api.KindData})
	w.Do(api.Step{Kind: api.StepDouble, N: 1})
	w.Do(tick(0, 1))
	w.Do(api.Step{Kind: api.StepDrop, N: 2})
	tells(t, w, 5, told{api.EventDoubled, 0, 0, 11, api.KindData}, told{api.EventDropped, 0, 0, 12, api.KindData})
	w.Do(tick(1, 8))
	w.Do(deliver(0, 0, 0))
	tells(t, w, 7, told{api.EventHeard, 0, 0, 78, api.KindData}, told{api.EventSent, 1, 0, 78, api.KindAck}, told{api.EventSent, 1, 0, 78, api.KindDack})
	w.Do(deliver(1, 0, 1))
	w.Do(write(1, "ABCDEFGHIJKL"))
	w.Do(onPath(api.StepDown, 0))
	w.Do(write(1, "M"))
	tells(t, w, 10, told{api.EventHeard, 1, 0, 12, api.KindDack},
		told{api.EventSent, 1, 0, 78, api.KindData}, told{api.EventSent, 1, 0, 78, api.KindData}, told{api.EventSent, 1, 0, 78, api.KindData},
		told{api.EventLost, 1, 0, 78, api.KindData})
	w.Do(onPath(api.StepUp, 0))
	w.Do(joins(api.StepJoin, 0, 1, true))
	l := kinds(w.Log())
	if e := l[len(l)-1]; e != (told{api.EventSent, 0, 1, 12, api.KindJoin}) {
		t.Errorf("%+v", e)
	}
}

// P15.10: a Tick's frames have the clock behind it; so has what a side in error would hear.
func TestLogAtTicks(t *testing.T) {
	w := open(t, config(), write(0, "abcd"), tick(0, 999), tick(0, 1))
	tells(t, w, 1, told{api.EventSent, 0, 0, 1000, api.KindData}) // the timer fires, and the chunk goes out again
	w = open(t, config(), write(0, "ab"), atSide(api.StepAbort, 1), tick(1, 40), tick(1, -7), tick(1, api.MaxTick+1), flush(0))
	tells(t, w, 0, told{api.EventSent, 0, 0, 0, api.KindData}, told{api.EventSent, 1, 0, 0, api.KindRst},
		told{api.EventHeard, 0, 0, 40 + api.MaxTick, api.KindData}, told{api.EventHeard, 1, 0, 0, api.KindRst})
}

// P15.10: the bytes are the frame's behind what happened; steps that meet no frame tell nothing.
func TestLogBytes(t *testing.T) {
	w := open(t, config())
	for _, s := range []api.Step{deliver(0, 0, 0), {Kind: api.StepDrop}, {Kind: api.StepDouble}, spoil(0, 0, 0, 0, 1), flush(0), onPath(api.StepDown, 0), onPath(api.StepUp, 0), tick(0, 5), read(0, 4)} {
		w.Do(s)
	}
	if len(w.Log()) != 0 {
		t.Fatalf("%+v", w.Log())
	}
	w.Do(write(0, "abcdefgh"))
	first, second := w.Bag(0, 0)[0].Bytes, w.Bag(0, 0)[1].Bytes
	w.Do(spoil(0, 0, 1, -1, 0xf0))
	broken := bytes.Clone(second)
	broken[len(broken)-1] ^= 0xf0
	w.Do(api.Step{Kind: api.StepDouble, N: 1})
	w.Do(deliver(0, 0, 1))
	w.Do(api.Step{Kind: api.StepDrop, N: 0})
	want := [][]byte{first, second, broken, broken, broken, first}
	for i, e := range w.Log() {
		if !bytes.Equal(e.Bytes, want[i]) {
			t.Errorf("event %d: %x, want %x", i, e.Bytes, want[i])
		}
	}
	if n := len(w.Log()); n != 6 { // nothing was sent at the frame that can't be read
		t.Errorf("%d events", n)
	}
}
