package transfer

import (
	"braid/api"
	"braid/journal"
	"braid/pieces"
)

// known is what a side knows of the peer's files, and the log in which that is kept.
type known struct {
	files map[string]*pieces.Store // by their names
	log   *journal.Log             // nil: nothing is kept
}

// recall is what a log tells.
func recall(log *journal.Log) *known {
	k := &known{files: map[string]*pieces.Store{}, log: log}
	if log == nil {
		return k
	}
	for _, r := range log.Records() {
		switch r.Kind {
		case api.RecordManifest:
			k.recallManifest(r.Body)
		case api.RecordPiece:
			k.recallPiece(r.Body)
		}
	}
	return k
}

func (k *known) recallManifest(body []byte) {
	if m, e := pieces.Decode(body); e == api.OK {
		k.set(m)
	}
}

// recallPiece takes a piece without a path: it was proved ahead of being kept.
func (k *known) recallPiece(body []byte) {
	c := cursor{left: body}
	name, root, i := c.name(), c.root(), c.number(numberSize)
	if s := k.files[name]; s != nil && !c.short && s.Manifest().Root == root {
		s.Mark(i, c.left)
	}
}

// set knows a file by a manifest, with no pieces.
func (k *known) set(m api.Manifest) {
	k.files[m.Name], _ = pieces.New(m)
}

// learn is set, of a manifest that has come.
func (k *known) learn(m api.Manifest) {
	k.set(m)
	b, _ := pieces.Encode(m)
	k.keep(api.RecordManifest, b)
}

// take takes a piece that has come: did it lead to the file's root?
func (k *known) take(s *pieces.Store, i int, data []byte, path []api.Sum) bool {
	if _, e := s.Put(i, data, path); e != api.OK {
		return false
	}
	m := s.Manifest()
	b := named(nil, m.Name)
	b = append(b, m.Root[:]...)
	b = numbered(b, uint64(i), numberSize)
	k.keep(api.RecordPiece, append(b, data...))
	return true
}

// keep appends a record. What the log refuses is not kept, and nothing else comes of it.
func (k *known) keep(kind byte, body []byte) {
	if k.log != nil {
		k.log.Append(kind, body)
	}
}

func (k *known) sync() api.Errno {
	if k.log == nil {
		return api.OK
	}
	return k.log.Sync()
}

func (k *known) forget(name string) { delete(k.files, name) }

// state is that of a fetch which begins, or goes on, by what is known of its name.
func (k *known) state(name string) int {
	s := k.files[name]
	switch {
	case s == nil:
		return api.FetchAsking
	case s.Done():
		return api.FetchDone
	}
	return api.FetchGetting
}
