package transfer

import (
	"braid/api"
	"braid/pieces"
)

// answer is what comes for a request, part by part.
type answer struct {
	known *known
	name  string
	store *pieces.Store          // to which the pieces come that were asked for
	ask   numbers                // of these the ones that have not come; at first none: the manifest was asked for
	came  []byte                 // of the next part
	need  int                    // how many bytes that part has
	hear  func(part []byte) bool // goes on behind it; false: it can't be right
	end   func() int             // what the end does, and the state that it brings; nil: it would be too early
}

// awaited is the answer to a request that was made.
func awaited(k *known, q request) *answer {
	a := &answer{known: k, name: q.name, store: k.files[q.name], ask: q.ask}
	a.expect(1, a.hearFirst)
	return a
}

func (a *answer) expect(need int, hear func(part []byte) bool) { a.need, a.hear = need, hear }

// finish expects the end alone.
func (a *answer) finish(end func() int) {
	a.end = end
	a.expect(1, func([]byte) bool { return false })
}

// take goes through bytes that have come: may they be right?
func (a *answer) take(b []byte) bool {
	a.came = append(a.came, b...)
	for len(a.came) >= a.need {
		part := a.came[:a.need:a.need]
		a.came = a.came[a.need:]
		if !a.hear(part) {
			return false
		}
	}
	return true
}

// now is the state that what is known brings.
func (a *answer) now() int { return a.known.state(a.name) }

func (a *answer) hearFirst(part []byte) bool {
	ofPieces := len(a.ask) > 0
	switch first := part[0]; {
	case first == sayNone:
		a.finish(func() int { return api.FetchMissing })
	case first == sayChanged && ofPieces:
		a.finish(func() int { return api.FetchChanged })
	case first == sayYes && ofPieces:
		a.expectPiece()
	case first == sayYes:
		a.expect(countSize, a.hearLength)
	default:
		return false
	}
	return true
}

func (a *answer) hearLength(part []byte) bool {
	c := cursor{left: part}
	a.expect(c.number(countSize), a.hearManifest)
	return true
}

func (a *answer) hearManifest(part []byte) bool {
	m, e := pieces.Decode(part)
	if e != api.OK || m.Name != a.name {
		return false
	}
	a.finish(func() int {
		a.known.learn(m)
		return a.now()
	})
	return true
}

// expectPiece goes on to the next piece, if one more was asked for.
func (a *answer) expectPiece() {
	i, ok := a.ask.pop()
	if !ok {
		a.finish(a.now)
		return
	}
	a.expect(numberSize+1, func(part []byte) bool { return a.hearHead(i, part) })
}

// hearHead hears what stands ahead of a piece's path.
func (a *answer) hearHead(i int, part []byte) bool {
	c := cursor{left: part}
	if c.number(numberSize) != i {
		return false
	}
	path := make([]api.Sum, c.number(1))
	size := pieces.Size(a.store.Manifest(), i)
	a.expect(len(path)*sumSize+size, func(part []byte) bool { return a.hearPiece(i, path, part) })
	return true
}

// hearPiece hears a piece with its path.
func (a *answer) hearPiece(i int, path []api.Sum, part []byte) bool {
	c := cursor{left: part}
	for k := range path {
		path[k] = c.root()
	}
	if !a.known.take(a.store, i, c.left, path) {
		return false
	}
	a.expectPiece()
	return true
}
