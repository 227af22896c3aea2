package transfer

import (
	"braid/api"
	"braid/pieces"
)

// readSize is how many bytes of an answer are read at once.
const readSize = 65536

// fetch is a file that this side has asked for.
type fetch struct {
	name   string
	class  int
	share  int
	state  int
	asked  int     // requests that were made
	stream uint64  // of the request that is under way; 0: none
	answer *answer // on that stream
}

// wants tells whether there is anything to be asked for.
func (f *fetch) wants() bool { return f.state == api.FetchAsking || f.state == api.FetchGetting }

// leave goes on in a new state without a stream.
func (f *fetch) leave(state int) {
	f.state, f.stream, f.answer = state, 0, nil
}

// view looks at a fetch, of whose name so much is known.
func (f *fetch) view(s *pieces.Store) api.FetchView {
	return api.FetchView{Name: f.name, State: f.state, Manifest: s.Manifest(), Have: s.Have(), Asked: f.asked, Stream: f.stream}
}

// giveUp drops the stream, if there is one.
func (t *Transfer) giveUp(f *fetch, state int) {
	if f.stream != 0 {
		t.drop(f.stream)
	}
	f.leave(state)
}

// pursue goes on with a fetch as long as anything becomes of it.
func (t *Transfer) pursue(f *fetch) {
	for f.wants() {
		state, stream := f.state, f.stream
		if stream == 0 {
			t.request(f)
		} else {
			t.listen(f)
		}
		if f.state == state && f.stream == stream {
			return
		}
	}
}

// request asks for what is missing, if a stream can be opened.
func (t *Transfer) request(f *fetch) {
	id, e := t.mux.Open(f.class, f.share)
	switch e {
	case api.OK:
		f.stream = id
	case api.ErrMuxAway:
		f.state = api.FetchFailed
		return
	default:
		return
	}
	f.asked++
	s := t.known.files[f.name]
	q := request{name: f.name, root: s.Manifest().Root, ask: s.Missing(t.batch)}
	q.ask = q.ask[:min(len(q.ask), api.MaxAsk)]
	t.mux.Write(id, q.bytes())
	t.mux.Close(id)
	f.answer = awaited(t.known, q)
}

// listen goes through what has come of the answer.
func (t *Transfer) listen(f *fetch) {
	for {
		b, ended, e := t.mux.Read(f.stream, readSize)
		switch {
		case e != api.OK || !f.answer.take(b) || ended && f.answer.end == nil:
			t.giveUp(f, api.FetchFailed)
			return
		case ended:
			f.leave(f.answer.end())
			return
		case len(b) == 0:
			return
		}
	}
}
