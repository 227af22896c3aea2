package fair_test

import (
	"slices"
	"testing"

	"braid/api"
)

// spoil writes over a list and over its spare room.
func spoil(l []api.FairView) {
	l = l[:cap(l)]
	for i := range l {
		l[i] = look(99, 99, 99, 99, 99)
	}
}

// DOC.md, 0.4: lists that are handed out are new memory, spare room too.
func TestHandedOut(t *testing.T) {
	c := streams(t, 10, 1, 2, 3)
	c.more(2, 30, api.OK)
	c.more(3, 30, api.OK)
	c.next(4, 2, 4)
	first, second := c.f.View(), c.f.View()
	kept := slices.Clone(first)
	spoil(second)
	if !slices.Equal(first, kept) {
		t.Errorf("two looks share memory: %v", first)
	}
	spoil(first)
	c.view(kept...)
	c.add(4, 3, 1, api.OK)
	c.more(4, 1, api.OK)
	c.row(2, 3, 4, 2)
}

// DOC.md, 0.4: a look that was handed out does not go on with the streams.
func TestLookStays(t *testing.T) {
	c := streams(t, 10, 1, 2)
	c.more(1, 30, api.OK)
	before := c.f.View()
	c.next(4, 1, 4)
	c.more(2, 9, api.OK)
	c.remove(1, api.OK)
	if want := []api.FairView{look(1, 3, 1, 30, 0), look(2, 3, 2, 0, 0)}; !slices.Equal(before, want) {
		t.Errorf("the look is %v by now, want %v", before, want)
	}
}

// DOC.md, 0.3: two of them know nothing of one another.
func TestApart(t *testing.T) {
	a, b := streams(t, 10, 1, 2), streams(t, 7, 1, 2)
	b.more(1, 20, api.OK)
	b.more(2, 20, api.OK)
	b.next(3, 1, 3)
	before := b.f.View()
	a.more(2, 5, api.OK)
	a.more(1, 5, api.OK)
	a.next(100, 2, 5)
	a.remove(1, api.OK)
	a.add(1, 0, 9, api.OK)
	a.add(6, 0, 1, api.OK)
	b.view(before...)
	b.next(100, 1, 4)
	b.next(100, 2, 14)
	b.row(1, 2, 1)
}
