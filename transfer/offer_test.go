package transfer_test

import (
	"fmt"
	"reflect"
	"slices"
	"strings"
	"testing"

	"braid/api"
)

// offered holds what is offered against files, by rising names.
func (c check) offered(want ...file) {
	c.t.Helper()
	var l []api.Manifest
	for _, f := range want {
		l = append(l, f.manifest())
	}
	if got := c.x.Stat().Offers; !slices.Equal(got, l) {
		c.t.Errorf("offered: %v, want %v", got, l)
	}
}

// P23.2: the errors of pieces.Describe.
func TestOfferErrors(t *testing.T) {
	c := begin(t, 0, small(), nil)
	for _, name := range []string{"", ".", "..", "a/b", "/", "a\x00", "\x1fa", "a\x7f", strings.Repeat("n", api.MaxName+1)} {
		c.offer(name, "abc", 1, nameErr)
		c.offer(name, "abc", 0, nameErr)
		c.offer(name, strings.Repeat("a", api.MaxFile+1), 0, nameErr)
	}
	for _, piece := range []int{0, -1, -1 << 63, api.MaxPiece + 1, 1<<63 - 1} {
		c.offer("x", "abc", piece, cutErr)
		c.offer("x", strings.Repeat("a", api.MaxFile+1), piece, cutErr)
	}
	c.offer("x", strings.Repeat("a", api.MaxFile+1), api.MaxPiece, longErr)
	c.offered()
}

// P23.2: what may be offered, and that it is told by rising names.
func TestOffers(t *testing.T) {
	c := begin(t, 0, small(), nil)
	long := strings.Repeat("n", api.MaxName)
	files := []file{
		fileOf("x", "abcdefg", 3),
		fileOf("b", "", 5),
		fileOf("\x80", "a", api.MaxPiece),
		fileOf("...", "ab", 1),
		fileOf(" ", "abc", 3),
		fileOf(long, "abcd", 3),
		fileOf("bb", "abcdef", 2),
		fileOf("B", "abcdefg", 3),
	}
	for _, f := range files {
		c.offer(f.name, f.data, f.piece, api.OK)
	}
	slices.SortFunc(files, func(a, b file) int { return strings.Compare(a.name, b.name) })
	c.offered(files...)
	big := fileOf("big", strings.Repeat("a", api.MaxFile), api.MaxPiece)
	c.offer(big.name, big.data, big.piece, api.OK)
	c.withdraw("B", api.OK)
	files = append(files, big)
	files = slices.DeleteFunc(files, func(f file) bool { return f.name == "B" })
	slices.SortFunc(files, func(a, b file) int { return strings.Compare(a.name, b.name) })
	c.offered(files...)
}

// P23.2: a name is offered once, whatever the file; the errors stand in their order.
func TestOfferThere(t *testing.T) {
	c := begin(t, 0, small(), nil)
	x := fileOf("x", "abc", 2)
	c.offer("x", "abc", 2, api.OK)
	c.offer("x", "abc", 2, thereErr)
	c.offer("x", "", 1, thereErr)
	c.offer("x", "abc", 0, cutErr)
	c.offer("x", strings.Repeat("a", api.MaxFile+1), 1, longErr)
	c.offered(x)
	c.withdraw("x", api.OK)
	c.withdraw("x", noOfferErr)
	c.offered()
	y := fileOf("x", "other", 4)
	c.offer("x", "other", 4, api.OK)
	c.offered(y)
}

// P23.2: as many as may be.
func TestOfferMany(t *testing.T) {
	c := begin(t, 0, small(), nil)
	name := func(i int) string { return fmt.Sprint("n", i) }
	for i := range api.MaxOffers {
		c.offer(name(i), "a", 1, api.OK)
	}
	c.offer("x", "a", 1, offersErr)
	c.offer("x", "a", 0, cutErr)
	c.offer(name(0), "a", 1, thereErr)
	c.withdraw("x", noOfferErr)
	c.withdraw("", noOfferErr)
	c.withdraw(name(5), api.OK)
	c.offer("x", "a", 1, api.OK)
	c.offer("y", "a", 1, offersErr)
	if n := len(c.x.Stat().Offers); n != api.MaxOffers {
		t.Errorf("%d are offered", n)
	}
}

// P23.2: neither works: what has come stays where it is, and what is offered is not known.
func TestOfferDoesNotWork(t *testing.T) {
	p := facing(t, wide(), nil)
	p.m.Write(p.open(), []byte("Mx"))
	p.x.Out(0)
	before := p.x.Stat()
	if e := p.x.Feed(p.m.Out(3)); e != api.OK {
		t.Fatal(e)
	}
	p.x.Offer("x", []byte("abc"), 1)
	p.x.Withdraw("x")
	p.x.Offer("x", []byte("abc"), 1)
	after := p.x.Stat()
	after.Offers = nil
	if !reflect.DeepEqual(before, after) {
		t.Errorf("%+v became %+v", before, after)
	}
	p.fetch("x", 0, 1, 1, api.OK)
	p.stands(1, asking, 0, 1, 1)
}

// P23.2: an answer that has begun goes on, though its file is withdrawn, and another one offered; and each that begins later is by what is offered then.
func TestWithdrawUnderWay(t *testing.T) {
	c := wide()
	c.Mux.Hold = api.MinHold
	// Of a part that is longer than Hold only a beginning is accepted at once.
	x := fileOf("x", letters(5000), 2000)
	other := fileOf("x", letters(3000), 2000)
	p := facing(t, c, nil)
	p.offer("x", x.data, x.piece, api.OK)
	early := p.open()
	p.m.Write(early, []byte(x.ask(0, 3)))
	p.pass()
	begun := p.open()
	p.m.Write(begun, []byte(x.ask(0, 3)))
	p.m.Close(begun)
	p.x.Feed(p.m.Out(1 << 20))
	p.serves(2)
	p.withdraw("x", api.OK)
	p.pass()
	p.told(begun, x.parts(0, 1, 2))

	p.m.Close(early)
	p.pass()
	p.told(early, "N")
	p.serves(0)

	p.offer("x", x.data, x.piece, api.OK)
	begun = p.open()
	p.m.Write(begun, []byte(x.ask(0, 3)))
	p.m.Close(begun)
	p.x.Feed(p.m.Out(1 << 20))
	early = p.open()
	p.m.Write(early, []byte(x.ask(0, 3)))
	p.x.Feed(p.m.Out(1 << 20))
	p.withdraw("x", api.OK)
	p.offer("x", other.data, other.piece, api.OK)
	p.m.Close(early)
	p.pass()
	p.told(begun, x.parts(0, 1, 2))
	p.told(early, "C")
	p.told(p.ask(requestM("x")), other.answer())
}
