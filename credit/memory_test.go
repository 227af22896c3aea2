package credit_test

import (
	"slices"
	"testing"

	"braid/api"
)

// spoil writes over a list and over its spare room.
func spoil[T any](l []T, with T) {
	l = l[:cap(l)]
	for i := range l {
		l[i] = with
	}
}

// DOC.md, 0.4: lists that are handed out are new memory, spare room too.
func TestHandedOut(t *testing.T) {
	c := getting(t, 10, 10, 3)
	wrong := api.RoomView{Stream: 99, Sent: 99, May: 99, Came: 99, Used: 99, Told: 99, Deaf: true}
	first, second := c.b.View(), c.b.View()
	kept := slices.Clone(first)
	spoil(second, wrong)
	if !slices.Equal(first, kept) {
		t.Errorf("two looks share memory: %v", first)
	}
	spoil(first, wrong)
	c.view(kept...)

	c.take(2, 5, api.OK)
	one, e := c.b.Use(2, 5)
	if e != api.OK || !slices.Equal(one, []api.RoomNote{note(2, 15), note(0, 15)}) {
		t.Fatal(one, e)
	}
	c.take(4, 5, api.OK)
	other, e := c.b.Use(4, 5)
	if e != api.OK || !slices.Equal(other, []api.RoomNote{note(4, 15), note(0, 20)}) {
		t.Fatal(other, e)
	}
	spoil(other, note(99, 99))
	if !slices.Equal(one, []api.RoomNote{note(2, 15), note(0, 15)}) {
		t.Errorf("two lists of notes share memory: %v", one)
	}
	spoil(one, note(99, 99))
	c.take(6, 5, api.OK)
	c.waste(6, api.OK, note(0, 25))
	c.of(0, 15, 15, 25)
}

// DOC.md, 0.3: two books know nothing of one another.
func TestApart(t *testing.T) {
	a, b := getting(t, 10, 6, 2), getting(t, 10, 6, 2)
	before := b.b.View()
	a.take(2, 4, api.OK)
	a.use(2, 4, api.OK, note(2, 10))
	a.waste(4, api.OK)
	a.close(2, api.OK)
	a.open(1, api.OK)
	a.spend(1, 1, api.OK)
	a.raise(0, 77, true, api.OK)
	b.view(before...)
	b.next(1)
}
