package simnet_test

import (
	"bytes"
	"math"
	"strconv"
	"testing"

	"braid/api"
	"braid/simnet"
)

// open is a network that must be given.
func open(t *testing.T, caps ...int) *simnet.Net {
	t.Helper()
	n, e := simnet.New(caps)
	if e != api.OK || n == nil {
		t.Fatalf("New(%v): %v, error %d", caps, n, e)
	}
	return n
}

// puts lays frames down that all must find a place.
func puts(t *testing.T, n *simnet.Net, path, dir int, frames ...string) {
	t.Helper()
	for _, f := range frames {
		if lies, e := n.Put(path, dir, []byte(f)); !lies || e != api.OK {
			t.Fatalf("Put(%d, %d, %q): %v, error %d", path, dir, f, lies, e)
		}
	}
}

// look is a path that must be there.
func look(t *testing.T, n *simnet.Net, path int) api.NetView {
	t.Helper()
	v, e := n.Look(path)
	if e != api.OK {
		t.Fatalf("Look(%d): error %d", path, e)
	}
	return v
}

// lie holds a bag against the frames that must lie there; a ! behind a text tells that it is spoilt.
func lie(t *testing.T, n *simnet.Net, path, dir int, frames ...string) {
	t.Helper()
	if got := look(t, n, path).Lying[dir]; got != len(frames) {
		t.Errorf("Lying of %d, %d is %d, not %d", path, dir, got, len(frames))
	}
	for k, f := range frames {
		p, e := n.Peek(path, dir, k)
		parcel(t, "Peek", p, e, f)
	}
	if p, e := n.Peek(path, dir, len(frames)); e != api.ErrNetPlace || p.Bytes != nil || p.Spoilt {
		t.Errorf("Peek behind the last: %q %v error %d", p.Bytes, p.Spoilt, e)
	}
}

// parcel holds an answer against a frame as lie tells it.
func parcel(t *testing.T, what string, p api.Parcel, e api.Errno, frame string) {
	t.Helper()
	got := string(p.Bytes)
	if p.Spoilt {
		got += "!"
	}
	if e != api.OK || got != frame {
		t.Errorf("%s: %q, error %d, not %q", what, got, e, frame)
	}
}

func is(t *testing.T, what string, got, want api.Errno) {
	t.Helper()
	if got != want {
		t.Errorf("%s: error %d, not %d", what, got, want)
	}
}

// answer is what a call says of a frame beside its error, told as text: empty if it says nothing.
type answer struct {
	said string
	err  api.Errno
}

func told(p api.Parcel, e api.Errno) answer {
	if p.Bytes == nil && !p.Spoilt {
		return answer{"", e}
	}
	return answer{strconv.Quote(string(p.Bytes)), e}
}

func asked(lies bool, e api.Errno) answer {
	if !lies {
		return answer{"", e}
	}
	return answer{"true", e}
}

// calls are those that name a bag, by name; those that name a frame ask for place k, and Spoil for its byte at.
func calls(k, at int) map[string]func(n *simnet.Net, path, dir int) answer {
	return map[string]func(n *simnet.Net, path, dir int) answer{
		"Put":    func(n *simnet.Net, path, dir int) answer { return asked(n.Put(path, dir, []byte("x"))) },
		"Take":   func(n *simnet.Net, path, dir int) answer { return told(n.Take(path, dir, k)) },
		"Drop":   func(n *simnet.Net, path, dir int) answer { return answer{"", n.Drop(path, dir, k)} },
		"Double": func(n *simnet.Net, path, dir int) answer { return asked(n.Double(path, dir, k)) },
		"Spoil":  func(n *simnet.Net, path, dir int) answer { return answer{"", n.Spoil(path, dir, k, at, 1)} },
		"Peek":   func(n *simnet.Net, path, dir int) answer { return told(n.Peek(path, dir, k)) },
	}
}

// P4.1: a path for each number, up, with that Cap, empty bags and counts of 0.
func TestNew(t *testing.T) {
	for _, caps := range [][]int{{1}, {api.MaxBag}, {2, 1}, {1, 2, 3, 4, 5, 6, 7, 8}} {
		n := open(t, caps...)
		if n.Paths() != len(caps) {
			t.Errorf("New(%v) has %d paths", caps, n.Paths())
		}
		for i, c := range caps {
			if v := look(t, n, i); v != (api.NetView{Up: true, Cap: c}) {
				t.Errorf("New(%v), path %d: %+v", caps, i, v)
			}
			lie(t, n, i, 0)
			lie(t, n, i, 1)
		}
	}
}

// P4.1: the number of paths is asked ahead of the Caps, and a Net that is refused is nil.
func TestNewRefuses(t *testing.T) {
	for _, c := range []struct {
		caps []int
		want api.Errno
	}{
		{nil, api.ErrNetPaths},
		{[]int{}, api.ErrNetPaths},
		{make([]int, 9), api.ErrNetPaths},
		{[]int{1, 1, 1, 1, 1, 1, 1, 1, 1}, api.ErrNetPaths},
		{make([]int, 1000), api.ErrNetPaths},
		{[]int{0}, api.ErrNetCap},
		{[]int{-1}, api.ErrNetCap},
		{[]int{math.MinInt}, api.ErrNetCap},
		{[]int{math.MaxInt}, api.ErrNetCap},
		{[]int{api.MaxBag + 1}, api.ErrNetCap},
		{[]int{1, 0}, api.ErrNetCap},
		{[]int{0, 1}, api.ErrNetCap},
		{[]int{1, 1, 1, 1, 1, 1, 1, api.MaxBag + 1}, api.ErrNetCap},
	} {
		if n, e := simnet.New(c.caps); n != nil || e != c.want {
			t.Errorf("New(%v): %v, error %d, not %d", c.caps, n, e, c.want)
		}
	}
}

// P4.2: frames of any number of bytes lie one behind the other, in their own bag alone.
func TestPut(t *testing.T) {
	n := open(t, 5, 5)
	long := string(bytes.Repeat([]byte("long"), 1<<18))
	puts(t, n, 0, 0, "ab", "", long, "ab")
	puts(t, n, 1, 1, "c")
	lie(t, n, 0, 0, "ab", "", long, "ab")
	lie(t, n, 0, 1)
	lie(t, n, 1, 0)
	lie(t, n, 1, 1, "c")
	if lies, e := n.Put(0, 0, nil); !lies || e != api.OK {
		t.Errorf("Put of nil: %v, error %d", lies, e)
	}
	lie(t, n, 0, 0, "ab", "", long, "ab", "")
	if v := look(t, n, 0); v.Put != [2]uint64{5, 0} || v.Lost != [2]uint64{} {
		t.Errorf("%+v", v)
	}
}

// P4.2: a full bag or a path that is down loses the frame, and each direction has a Cap of its own.
func TestPutLoses(t *testing.T) {
	n := open(t, 2, 1)
	puts(t, n, 0, 0, "a", "b")
	loses := func(path, dir int) {
		t.Helper()
		if lies, e := n.Put(path, dir, []byte("z")); lies || e != api.OK {
			t.Errorf("Put(%d, %d): %v, error %d", path, dir, lies, e)
		}
	}
	loses(0, 0)
	puts(t, n, 0, 1, "c", "d")
	loses(0, 1)
	loses(0, 1)
	lie(t, n, 0, 0, "a", "b")
	lie(t, n, 0, 1, "c", "d")
	want := api.NetView{Up: true, Cap: 2, Lying: [2]int{2, 2}, Put: [2]uint64{3, 4}, Lost: [2]uint64{1, 2}}
	if v := look(t, n, 0); v != want {
		t.Errorf("%+v, not %+v", v, want)
	}
	is(t, "Set", n.Set(1, false), api.OK)
	loses(1, 0)
	loses(1, 1)
	lie(t, n, 1, 0)
	want = api.NetView{Cap: 1, Put: [2]uint64{1, 1}, Lost: [2]uint64{1, 1}}
	if v := look(t, n, 1); v != want {
		t.Errorf("%+v, not %+v", v, want)
	}
	is(t, "Set", n.Set(1, true), api.OK)
	puts(t, n, 1, 0, "e")
	lie(t, n, 1, 0, "e")
}

// P4.3 and P4.4: from bags of up to six frames, each place in turn: what leaves is what lay there, and those behind it move up.
func TestTakeAndDropEachPlace(t *testing.T) {
	all := []string{"zero", "one", "", "three", "four", "five"}
	for size := 1; size <= len(all); size++ {
		for k := range size {
			n := open(t, 6)
			puts(t, n, 0, 0, all[:size]...)
			puts(t, n, 0, 1, all[:size]...)
			p, e := n.Take(0, 0, k)
			parcel(t, "Take", p, e, all[k])
			is(t, "Drop", n.Drop(0, 1, k), api.OK)
			rest := append(append([]string{}, all[:k]...), all[k+1:size]...)
			lie(t, n, 0, 0, rest...)
			lie(t, n, 0, 1, rest...)
			all := uint64(size)
			want := api.NetView{Up: true, Cap: 6, Lying: [2]int{size - 1, size - 1}, Put: [2]uint64{all, all}, Taken: [2]uint64{1, 0}, Gone: [2]uint64{0, 1}}
			if v := look(t, n, 0); v != want {
				t.Errorf("%+v, not %+v", v, want)
			}
			puts(t, n, 0, 0, "new")
			lie(t, n, 0, 0, append(rest, "new")...)
		}
	}
}

// P4.3: what is taken is spoilt if it lay there so.
func TestTakeSpoilt(t *testing.T) {
	n := open(t, 2)
	puts(t, n, 0, 1, "ab", "cd")
	is(t, "Spoil", n.Spoil(0, 1, 1, 0, 3), api.OK)
	p, e := n.Take(0, 1, 1)
	parcel(t, "Take", p, e, "`d!")
	p, e = n.Take(0, 1, 0)
	parcel(t, "Take", p, e, "ab")
}

// P4.5: the double lies behind all others, and takes a place of its own.
func TestDouble(t *testing.T) {
	n := open(t, 4)
	puts(t, n, 0, 0, "ab", "c")
	if lies, e := n.Double(0, 0, 0); !lies || e != api.OK {
		t.Errorf("Double: %v, error %d", lies, e)
	}
	lie(t, n, 0, 0, "ab", "c", "ab")
	is(t, "Spoil", n.Spoil(0, 0, 1, 0, 1), api.OK)
	if lies, e := n.Double(0, 0, 1); !lies || e != api.OK {
		t.Errorf("Double: %v, error %d", lies, e)
	}
	lie(t, n, 0, 0, "ab", "b!", "ab", "b!")
	before := look(t, n, 0)
	if lies, e := n.Double(0, 0, 3); lies || e != api.OK {
		t.Errorf("Double into a full bag: %v, error %d", lies, e)
	}
	want := api.NetView{Up: true, Cap: 4, Lying: [2]int{4, 0}, Put: [2]uint64{2, 0}, Twice: [2]uint64{2, 0}}
	if v := look(t, n, 0); v != want || v != before {
		t.Errorf("%+v, not %+v", v, want)
	}
	lie(t, n, 0, 0, "ab", "b!", "ab", "b!")
}

// P4.5 and P4.6: a first and its double are spoilt apart, each held against what the first was put as, also when the first has left.
func TestDoubleGoesItsOwnWay(t *testing.T) {
	n := open(t, 4)
	puts(t, n, 0, 0, "ab")
	n.Spoil(0, 0, 0, 0, 1)
	n.Double(0, 0, 0)
	lie(t, n, 0, 0, "`b!", "`b!")
	is(t, "Spoil", n.Spoil(0, 0, 1, 0, 1), api.OK)
	lie(t, n, 0, 0, "`b!", "ab")
	is(t, "Spoil", n.Spoil(0, 0, 0, 1, 1), api.OK)
	lie(t, n, 0, 0, "`c!", "ab")
	n.Double(0, 0, 0)
	is(t, "Drop", n.Drop(0, 0, 0), api.OK)
	is(t, "Spoil", n.Spoil(0, 0, 1, 1, 1), api.OK)
	is(t, "Spoil", n.Spoil(0, 0, 1, 0, 1), api.OK)
	lie(t, n, 0, 0, "ab", "ab")
	is(t, "Spoil", n.Spoil(0, 0, 0, 0, 2), api.OK)
	lie(t, n, 0, 0, "cb!", "ab")
}

// P4.6: spoilt is a frame as long as its bytes are not those that were put, by whatever masks they became so.
func TestSpoil(t *testing.T) {
	n := open(t, 3)
	puts(t, n, 0, 0, "first", "abc", "last")
	for _, c := range []struct {
		at   int
		mask byte
		want string
	}{
		{0, 0, "abc"},
		{2, 0, "abc"},
		{1, 3, "aac!"},
		{1, 0, "aac!"},
		{1, 3, "abc"},
		{0, 1, "`bc!"},
		{2, 1, "`bb!"},
		{0, 1, "abb!"},
		{2, 1, "abc"},
		{1, 1, "acc!"},
		{1, 2, "aac!"},
		{1, 3, "abc"},
		{0, 255, "\x9ebc!"},
		{0, 0xF0, "nbc!"},
		{0, 0x0F, "abc"},
	} {
		is(t, "Spoil", n.Spoil(0, 0, 1, c.at, c.mask), api.OK)
		lie(t, n, 0, 0, "first", c.want, "last")
	}
	if v := look(t, n, 0); v != (api.NetView{Up: true, Cap: 3, Lying: [2]int{3, 0}, Put: [2]uint64{3, 0}}) {
		t.Errorf("%+v", v)
	}
}

// P4.6: a byte that the frame does not have, mask 0 or not.
func TestSpoilNoSuchByte(t *testing.T) {
	n := open(t, 2)
	puts(t, n, 0, 0, "ab", "")
	for _, mask := range []byte{0, 1} {
		for _, at := range []int{-1, 2, 3, math.MinInt, math.MaxInt} {
			is(t, "Spoil", n.Spoil(0, 0, 0, at, mask), api.ErrNetByte)
		}
		for _, at := range []int{0, -1, 1} {
			is(t, "Spoil without bytes", n.Spoil(0, 0, 1, at, mask), api.ErrNetByte)
		}
	}
	lie(t, n, 0, 0, "ab", "")
}

// P4.7: what lies in the bags stays while the path is down, and other paths stay as they are.
func TestSet(t *testing.T) {
	n := open(t, 2, 2)
	puts(t, n, 0, 0, "ab", "c")
	puts(t, n, 0, 1, "d")
	puts(t, n, 1, 0, "e")
	for range 2 {
		is(t, "Set", n.Set(0, false), api.OK)
		lie(t, n, 0, 0, "ab", "c")
		lie(t, n, 0, 1, "d")
		if look(t, n, 0).Up || !look(t, n, 1).Up {
			t.Error("path 0 alone must be down")
		}
	}
	for range 2 {
		is(t, "Set", n.Set(0, true), api.OK)
		if !look(t, n, 0).Up {
			t.Error("path 0 must be up")
		}
	}
	p, e := n.Take(0, 0, 0)
	parcel(t, "Take", p, e, "ab")
	lie(t, n, 0, 0, "c")
	lie(t, n, 1, 0, "e")
}

// P4.2 to P4.8: what each call does on a path that is down, with a frame at that place and without one.
func TestDown(t *testing.T) {
	for name, call := range calls(0, 0) {
		n := open(t, 2)
		puts(t, n, 0, 1, "ab")
		is(t, "Set", n.Set(0, false), api.OK)
		want, empty := answer{"", api.OK}, answer{"", api.ErrNetPlace}
		switch name {
		case "Put":
			empty = want
		case "Take", "Double":
			want, empty = answer{"", api.ErrNetDown}, answer{"", api.ErrNetDown}
		case "Peek":
			want = answer{`"ab"`, api.OK}
		}
		if got := call(n, 0, 1); got != want {
			t.Errorf("%s: %v, not %v", name, got, want)
		}
		if got := call(n, 0, 0); got != empty {
			t.Errorf("%s of an empty bag: %v, not %v", name, got, empty)
		}
	}
	n := open(t, 2)
	puts(t, n, 0, 1, "ab", "cd")
	n.Set(0, false)
	n.Spoil(0, 1, 1, 0, 1)
	n.Drop(0, 1, 0)
	lie(t, n, 0, 1, "bd!")
	if v := look(t, n, 0); v.Gone != [2]uint64{0, 1} {
		t.Errorf("%+v", v)
	}
}

// The errors in their order: each call is given all that is wrong behind the first fault too, and nothing is changed.
func TestErrorsInTheirOrder(t *testing.T) {
	far := []int{math.MinInt, -1, 2, 3, 8, math.MaxInt}
	n := open(t, 2, 2)
	puts(t, n, 1, 0, "ab")
	n.Set(0, false)
	before := [2]api.NetView{look(t, n, 0), look(t, n, 1)}
	refuse := func(name string, call func(*simnet.Net, int, int) answer, path, dir int, want api.Errno) {
		t.Helper()
		if got := call(n, path, dir); got != (answer{"", want}) {
			t.Errorf("%s(%d, %d): %v, not error %d", name, path, dir, got, want)
		}
	}
	for _, k := range far {
		for name, call := range calls(k, -1) {
			for _, x := range far {
				refuse(name, call, x, 0, api.ErrNetPath)
				refuse(name, call, 0, x, api.ErrNetDir)
				refuse(name, call, 1, x, api.ErrNetDir)
				for _, y := range far {
					refuse(name, call, x, y, api.ErrNetPath)
				}
			}
			switch name {
			case "Put":
			case "Take", "Double":
				refuse(name, call, 0, 0, api.ErrNetDown)
				refuse(name, call, 1, 0, api.ErrNetPlace)
			default:
				refuse(name, call, 0, 0, api.ErrNetPlace)
				refuse(name, call, 1, 0, api.ErrNetPlace)
			}
		}
	}
	for _, x := range far {
		is(t, "Set", n.Set(x, true), api.ErrNetPath)
		if v, e := n.Look(x); v != (api.NetView{}) || e != api.ErrNetPath {
			t.Errorf("Look(%d): %+v, error %d", x, v, e)
		}
	}
	if after := [2]api.NetView{look(t, n, 0), look(t, n, 1)}; after != before {
		t.Errorf("%+v, not %+v", after, before)
	}
	lie(t, n, 1, 0, "ab")
}

// A place is one of this bag: what lies in the other direction or on another path does not count.
func TestPlacesOfThisBag(t *testing.T) {
	n := open(t, 3, 3)
	puts(t, n, 0, 0, "a", "b", "c")
	puts(t, n, 0, 1, "d")
	puts(t, n, 1, 0, "e", "f")
	for name, call := range calls(1, 0) {
		if name == "Put" {
			continue
		}
		if got := call(n, 0, 1); got != (answer{"", api.ErrNetPlace}) {
			t.Errorf("%s: %v", name, got)
		}
	}
	for name, call := range calls(-1, 0) {
		if name == "Put" {
			continue
		}
		if got := call(n, 0, 0); got != (answer{"", api.ErrNetPlace}) {
			t.Errorf("%s of place -1: %v", name, got)
		}
	}
}

// P4.8: Peek and Look change nothing.
func TestPeekStays(t *testing.T) {
	n := open(t, 2)
	puts(t, n, 0, 0, "ab", "c")
	before := look(t, n, 0)
	for range 3 {
		lie(t, n, 0, 0, "ab", "c")
	}
	if v := look(t, n, 0); v != before {
		t.Errorf("%+v, not %+v", v, before)
	}
}

// 'Functions': a Net that New did not give has no path.
func TestNetThatNewDidNotGive(t *testing.T) {
	for what, n := range map[string]*simnet.Net{"nil": nil, "a plain Net": {}} {
		if n.Paths() != 0 {
			t.Errorf("%s has %d paths", what, n.Paths())
		}
		for _, x := range []int{-1, 0, 1, math.MaxInt} {
			for name, call := range calls(x, x) {
				if got := call(n, x, x); got != (answer{"", api.ErrNetPath}) {
					t.Errorf("%s: %s(%d): %v", what, name, x, got)
				}
			}
			is(t, "Set", n.Set(x, true), api.ErrNetPath)
			if v, e := n.Look(x); v != (api.NetView{}) || e != api.ErrNetPath {
				t.Errorf("%s: Look: %+v, error %d", what, v, e)
			}
		}
	}
}

// 0.3: two networks know nothing of one another.
func TestTwoNets(t *testing.T) {
	caps := []int{1}
	a, b := open(t, caps...), open(t, caps...)
	puts(t, a, 0, 0, "ab")
	a.Set(0, false)
	if v := look(t, b, 0); v != (api.NetView{Up: true, Cap: 1}) {
		t.Errorf("%+v", v)
	}
}

// P4.10: New does not keep or change the Caps, nor what lies behind them.
func TestMemoryOfNew(t *testing.T) {
	caps := []int{2, 1, 77}
	n, _ := simnet.New(caps[:2])
	if caps[0] != 2 || caps[1] != 1 || caps[2] != 77 {
		t.Errorf("New changed its Caps: %v", caps)
	}
	caps[0], caps[1] = 50, 50
	if look(t, n, 0).Cap != 2 || look(t, n, 1).Cap != 1 {
		t.Error("New keeps its Caps")
	}
}

// P4.10: Put does not keep or change the frame, nor what lies behind it.
func TestMemoryOfPut(t *testing.T) {
	n := open(t, 4)
	room := []byte("abcdef")
	n.Put(0, 0, room[:3])
	n.Double(0, 0, 0)
	n.Spoil(0, 0, 0, 0, 1)
	n.Put(0, 0, room[:0])
	if string(room) != "abcdef" {
		t.Errorf("Put changed what it was handed: %q", room)
	}
	copy(room, "zzzzzz")
	lie(t, n, 0, 0, "`bc!", "abc", "")
}

// P4.10: whoever writes into what was handed out, or into its spare room, changes no frame, also not one's double.
func TestMemoryOfParcels(t *testing.T) {
	n := open(t, 9)
	puts(t, n, 0, 0, "abc", "", "defg")
	n.Double(0, 0, 0)
	n.Spoil(0, 0, 2, 0, 1)
	n.Double(0, 0, 2)
	n.Double(0, 0, 2)
	var kept [][]byte
	smear := func(p api.Parcel, e api.Errno) {
		t.Helper()
		is(t, "smear", e, api.OK)
		b := p.Bytes[:cap(p.Bytes)]
		for i := range b {
			b[i] = 'z'
		}
		kept = append(kept, b)
	}
	for range 2 {
		for k := range 6 {
			smear(n.Peek(0, 0, k))
			lie(t, n, 0, 0, "abc", "", "eefg!", "abc", "eefg!", "eefg!")
		}
	}
	smear(n.Take(0, 0, 0))
	smear(n.Take(0, 0, 1))
	lie(t, n, 0, 0, "", "abc", "eefg!", "eefg!")
	n.Spoil(0, 0, 1, 0, 1)
	n.Spoil(0, 0, 2, 0, 1)
	puts(t, n, 0, 0, "new")
	lie(t, n, 0, 0, "", "`bc!", "defg", "eefg!", "new")
	for _, b := range kept {
		if string(b) != string(bytes.Repeat([]byte("z"), len(b))) {
			t.Errorf("what was handed out was changed: %q", b)
		}
	}
}

// A bag may be long, and be emptied from its front, in time that grows with the number of its frames alone.
func TestLongBag(t *testing.T) {
	const frames = 200000
	n := open(t, frames)
	for i := range frames {
		puts(t, n, 0, 0, strconv.Itoa(i))
	}
	for i := range frames {
		p, e := n.Take(0, 0, 0)
		if string(p.Bytes) != strconv.Itoa(i) || e != api.OK {
			t.Fatalf("frame %d: %q, error %d", i, p.Bytes, e)
		}
	}
	lie(t, n, 0, 0)
}

// A long frame may be doubled as often as the bag has room: that takes no room for its bytes.
func TestManyDoublesOfALongFrame(t *testing.T) {
	const doubles = 100000
	n := open(t, doubles+1)
	long := bytes.Repeat([]byte("0123456789abcdef"), 1<<16)
	n.Put(0, 0, long)
	for range doubles {
		if lies, e := n.Double(0, 0, 0); !lies || e != api.OK {
			t.Fatalf("Double: %v, error %d", lies, e)
		}
	}
	is(t, "Spoil", n.Spoil(0, 0, doubles, len(long)-1, 1), api.OK)
	p, _ := n.Peek(0, 0, doubles)
	if !p.Spoilt || p.Bytes[len(long)-1] != 'g' || !bytes.Equal(p.Bytes[:len(long)-1], long[:len(long)-1]) {
		t.Error("the last double is not as it was spoilt")
	}
	p, _ = n.Peek(0, 0, doubles-1)
	if p.Spoilt || !bytes.Equal(p.Bytes, long) {
		t.Error("the last but one is not as it was put")
	}
}
