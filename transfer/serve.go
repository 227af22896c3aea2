package transfer

import (
	"slices"

	"braid/api"
	"braid/pieces"
)

// served is a stream of the peer's whose answer is not through.
type served struct {
	id      uint64
	request []byte
	reply   *reply // nil: the request is not through
	over    bool   // it is served no more
}

// reply is what is left to be written of an answer.
type reply struct {
	left  []byte        // of a part of it
	store *pieces.Store // which gives the parts behind that: a piece each
	ask   numbers
}

// accept serves the streams that the peer has opened.
func (t *Transfer) accept() {
	for {
		id, ok := t.mux.Accept()
		if !ok {
			return
		}
		t.serving = append(t.serving, &served{id: id})
	}
}

func (t *Transfer) serveAll() {
	for _, s := range t.serving {
		t.serve(s)
	}
	t.serving = slices.DeleteFunc(t.serving, func(s *served) bool { return s.over })
}

func (t *Transfer) serve(s *served) {
	if s.reply == nil {
		t.hear(s)
	}
	if s.reply != nil {
		t.give(s)
	}
}

// dropServed gives the stream up.
func (t *Transfer) dropServed(s *served) {
	t.drop(s.id)
	s.over = true
}

// hear reads what has come of the request.
func (t *Transfer) hear(s *served) {
	for {
		b, ended, e := t.mux.Read(s.id, api.MaxRequest+1)
		s.request = append(s.request, b...)
		switch {
		case e != api.OK || len(s.request) > api.MaxRequest:
			t.dropServed(s)
			return
		case ended:
			t.settle(s)
			return
		case len(b) == 0:
			return
		}
	}
}

// settle settles what the answer to a request is that is through.
func (t *Transfer) settle(s *served) {
	q, ok := readRequest(s.request)
	if ok {
		s.reply, ok = t.replyTo(q)
	}
	if !ok {
		t.dropServed(s)
	}
	s.request = nil
}

// replyTo is the answer to a request, if it asks for no piece that the file has not.
func (t *Transfer) replyTo(q request) (*reply, bool) {
	s := t.offers[q.name]
	if s == nil {
		return &reply{left: []byte{sayNone}}, true
	}
	m := s.Manifest()
	switch {
	case len(q.ask) == 0:
		return &reply{left: manifestReply(m)}, true
	case q.root != m.Root:
		return &reply{left: []byte{sayChanged}}, true
	case q.ask[len(q.ask)-1].Hi > uint64(pieces.Count(m)):
		return nil, false
	}
	return &reply{left: []byte{sayYes}, store: s, ask: q.ask}, true
}

func manifestReply(m api.Manifest) []byte {
	b, _ := pieces.Encode(m)
	return append(numbered([]byte{sayYes}, uint64(len(b)), countSize), b...)
}

// more tells whether anything is left, and goes on to the next part where none of one is.
func (r *reply) more() bool {
	if len(r.left) > 0 {
		return true
	}
	i, ok := r.ask.pop()
	if ok {
		r.left = pieceReply(r.store, i)
	}
	return ok
}

// pieceReply is a piece's part of an answer. The store has all pieces, and this one among them.
func pieceReply(s *pieces.Store, i int) []byte {
	path, _ := s.Proof(i)
	data, _ := s.Piece(i)
	b := numbered(nil, uint64(i), numberSize)
	b = append(b, byte(len(path)))
	for _, x := range path {
		b = append(b, x[:]...)
	}
	return append(b, data...)
}

// give writes as much of the answer as the stream takes.
func (t *Transfer) give(s *served) {
	for s.reply.more() {
		n, e := t.mux.Write(s.id, s.reply.left)
		if e != api.OK {
			t.dropServed(s)
			return
		}
		s.reply.left = s.reply.left[n:]
		if len(s.reply.left) > 0 {
			return
		}
	}
	t.mux.Close(s.id)
	s.over = true
}
