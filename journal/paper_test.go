package journal

import (
	"slices"
	"testing"

	"braid/api"
)

// spy is a disk that notes what a log does with it.
type spy struct {
	*Disk
	notes []note
}

// note is a write, or, without bytes, a Sync.
type note struct{ at, size int }

func (s *spy) put(at int, b []byte) {
	s.notes = append(s.notes, note{at, len(b)})
	s.Disk.put(at, b)
}

func (s *spy) Sync() {
	s.notes = append(s.notes, note{})
	s.Disk.Sync()
}

// opened opens a log on a spied disk of these bytes, and awaits what it does with it.
func opened(t *testing.T, image []byte, want ...note) (*Log, *spy) {
	t.Helper()
	d, _ := LoadDisk(image)
	s := &spy{Disk: d}
	l := found(s)
	if !slices.Equal(s.notes, want) {
		t.Errorf("Open does %v, not %v", s.notes, want)
	}
	s.notes = nil
	return l, s
}

// P21.1: zeros behind the records in one write, or none if all is 0 there; and always a Sync, behind it. P21.5: a second Open writes nothing.
func TestOpenWrites(t *testing.T) {
	one := laid(api.Record{Kind: 1, Body: []byte("ab")})
	full := slices.Clone(one)
	for _, x := range []struct {
		image []byte
		want  []note
	}{
		{make([]byte, 1), []note{{}}},
		{make([]byte, 60), []note{{}}},
		{[]byte{1}, []note{{0, 1}, {}}},
		{append(make([]byte, 59), 1), []note{{0, 60}, {}}},
		{full, []note{{}}},
		{append(full[:20:20], make([]byte, 30)...), []note{{}}},
		{append(full[:20:20], append(make([]byte, 30), 9)...), []note{{20, 31}, {}}},
		{append(full[:20:20], 9, 8, 7, 0, 0, 6), []note{{20, 6}, {}}},
		{full[:19], []note{{0, 19}, {}}},
	} {
		_, s := opened(t, x.image, x.want...)
		opened(t, s.Image(), note{})
	}
}

// P21.2: a record is one write, a Sync one Sync; what is refused touches nothing.
func TestLogWrites(t *testing.T) {
	l, s := opened(t, make([]byte, 60), note{})
	l.Append(1, []byte("ab"))
	l.Append(1, nil)
	l.Sync()
	l.Append(0, nil)
	l.Append(1, make([]byte, 5))
	l.Append(1, make([]byte, api.MaxRecord+1))
	l.Records()
	l.Len()
	l.Room()
	s.Crash(0, 0)
	l.Append(1, nil)
	l.Sync()
	if want := []note{{0, 20}, {20, 18}, {}}; !slices.Equal(s.notes, want) {
		t.Errorf("the log does %v, not %v", s.notes, want)
	}
}

// What is kept is no more than is needed: a Sync or a crash leaves no write behind.
func TestWritesForgotten(t *testing.T) {
	for _, end := range []func(*Disk){(*Disk).Sync, func(d *Disk) { d.Crash(1, 1) }} {
		d, _ := NewDisk(10)
		for range 5 {
			d.Write(0, make([]byte, 10))
		}
		end(d)
		if cap(d.waiting) != 0 {
			t.Error("writes are kept that are safe or lost")
		}
	}
}
