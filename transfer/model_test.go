package transfer_test

import (
	"bytes"
	"encoding/binary"
	"slices"
	"strings"

	"braid/api"
	"braid/journal"
	"braid/mux"
	"braid/pieces"
)

// verdict is what can be said of the beginning of an answer.
type verdict struct {
	took  int          // pieces that have come and are right
	wrong bool         // it can't be right any more
	whole bool         // the end may come
	state int          // that the end brings, if what is known does not tell it
	m     api.Manifest // of an answer M
}

// oneByte is the verdict of an answer N or C.
func oneByte(text []byte, state int) verdict {
	return verdict{wrong: len(text) > 1, whole: len(text) == 1, state: state}
}

// judgeM judges a beginning of an answer to a request M.
func judgeM(name string, text []byte) verdict {
	switch {
	case len(text) == 0:
		return verdict{}
	case text[0] == 'N':
		return oneByte(text, missing)
	case text[0] != 'Y':
		return verdict{wrong: true}
	case len(text) < 3:
		return verdict{}
	}
	n := 3 + int(binary.BigEndian.Uint16(text[1:]))
	if len(text) < n {
		return verdict{}
	}
	m, e := pieces.Decode(text[3:n])
	if e != api.OK || m.Name != name || len(text) > n {
		return verdict{wrong: true}
	}
	return verdict{whole: true, m: m}
}

// judgeP judges a beginning of an answer to a request P for pieces of a file.
func judgeP(m api.Manifest, numbers []int, text []byte) verdict {
	switch {
	case len(text) == 0:
		return verdict{}
	case text[0] == 'N':
		return oneByte(text, missing)
	case text[0] == 'C':
		return oneByte(text, changed)
	case text[0] != 'Y':
		return verdict{wrong: true}
	}
	v, left := verdict{}, text[1:]
	for _, i := range numbers {
		if len(left) < 5 {
			return v
		}
		if int(binary.BigEndian.Uint32(left)) != i {
			v.wrong = true
			return v
		}
		digests, data := 5+32*int(left[4]), min(m.Piece, m.Size-i*m.Piece)
		if len(left) < digests+data {
			return v
		}
		if !proves(m, i, left[5:digests], left[digests:digests+data]) {
			v.wrong = true
			return v
		}
		v.took++
		left = left[digests+data:]
	}
	v.wrong, v.whole = len(left) > 0, len(left) == 0
	return v
}

// proves tells whether digests lead from a piece to the root.
func proves(m api.Manifest, i int, digests, data []byte) bool {
	var path []api.Sum
	for d := range slices.Chunk(digests, 32) {
		path = append(path, api.Sum(d))
	}
	return pieces.Leads(m.Root, (m.Size+m.Piece-1)/m.Piece, i, pieces.Leaf(data), path)
}

// pieceAt is the bytes of the piece that was taken as the n-th of an answer.
func pieceAt(m api.Manifest, numbers []int, text []byte, n int) string {
	at := 1
	for k, i := range numbers {
		digests, data := at+5+32*int(text[at+4]), min(m.Piece, m.Size-i*m.Piece)
		if k == n {
			return string(text[digests : digests+data])
		}
		at = digests + data
	}
	panic("no such piece")
}

// knowing is what is known of a file.
type knowing struct {
	m    api.Manifest
	have map[int]string
}

func (k *knowing) count() int { return (k.m.Size + k.m.Piece - 1) / k.m.Piece }

// lacks is the lowest numbers that are missing, most of them, as stretches.
func (k *knowing) lacks(most int) []api.Range {
	var l []api.Range
	for i := 0; i < k.count() && most > 0; i++ {
		if _, ok := k.have[i]; ok {
			continue
		}
		most--
		if n := len(l); n > 0 && l[n-1].Hi == uint64(i) {
			l[n-1].Hi++
			continue
		}
		l = append(l, api.Range{Lo: uint64(i), Hi: uint64(i + 1)})
	}
	return l
}

// mFetch is a fetch, with all of an answer that has come so far.
type mFetch struct {
	api.FetchView // but for Manifest and Have
	class, share  int
	came          []byte
	numbers       []int // that were asked for; none: the manifest was
	took          int
}

// mServed is a stream that is served.
type mServed struct {
	id      uint64
	request []byte
	through bool
	answer  []byte
}

// byBook is a second reckoning: the chapter word by word, which judges all that has come of an answer each time.
type byBook struct {
	batch   int
	m       *mux.Mux
	log     *journal.Log
	offers  map[string]file
	knows   map[string]*knowing
	fetches []*mFetch
	served  []*mServed
}

func newByBook(side int, c api.TransferConfig, log *journal.Log) *byBook {
	m, _ := mux.New(side, c.Mux)
	b := &byBook{batch: c.Batch, m: m, log: log, offers: map[string]file{}, knows: map[string]*knowing{}}
	if log != nil {
		b.knows = recalled(log.Records())
	}
	return b
}

// recalled is what a log's records tell.
func recalled(records []api.Record) map[string]*knowing {
	knows := map[string]*knowing{}
	for _, r := range records {
		if m, e := pieces.Decode(r.Body); r.Kind == 1 && e == api.OK {
			knows[m.Name] = &knowing{m: m, have: map[int]string{}}
		}
		if r.Kind != 2 || len(r.Body) < 1 || len(r.Body) < 1+int(r.Body[0])+36 {
			continue
		}
		n := 1 + int(r.Body[0])
		root, i, data := r.Body[n:n+32], int(binary.BigEndian.Uint32(r.Body[n+32:])), string(r.Body[n+36:])
		k := knows[string(r.Body[1:n])]
		if k == nil || !bytes.Equal(k.m.Root[:], root) || i >= k.count() || len(data) != min(k.m.Piece, k.m.Size-i*k.m.Piece) {
			continue
		}
		if _, ok := k.have[i]; !ok {
			k.have[i] = data
		}
	}
	return knows
}

func (b *byBook) broken() bool { return b.m.Stat().Broken != api.OK }

// first is the first error that applies, in the order of the table.
func first(l ...api.Errno) api.Errno {
	for _, e := range l {
		if e != api.OK {
			return e
		}
	}
	return api.OK
}

func when(applies bool, e api.Errno) api.Errno {
	if applies {
		return e
	}
	return api.OK
}

func badName(name string) bool {
	return name == "" || len(name) > 255 || name == "." || name == ".." || strings.ContainsFunc(name, func(r rune) bool { return r < 32 || r == 127 || r == '/' })
}

func (b *byBook) offer(name string, data []byte, piece int) api.Errno {
	_, is := b.offers[name]
	e := first(when(b.broken(), brokenErr), when(badName(name), nameErr), when(piece < 1 || piece > 65536, cutErr), when(is, thereErr), when(len(b.offers) == 64, offersErr))
	if e == api.OK {
		b.offers[name] = fileOf(name, string(data), piece)
	}
	return e
}

func (b *byBook) withdraw(name string) api.Errno {
	_, is := b.offers[name]
	e := first(when(b.broken(), brokenErr), when(!is, noOfferErr))
	if e == api.OK {
		delete(b.offers, name)
	}
	return e
}

// begins is the state by what is known.
func (b *byBook) begins(name string) int {
	switch k := b.knows[name]; {
	case k == nil:
		return asking
	case len(k.have) == k.count():
		return done
	}
	return getting
}

func (b *byBook) fetch(name string, class, share int) (int, api.Errno) {
	is := slices.ContainsFunc(b.fetches, func(f *mFetch) bool { return f.Name == name })
	e := first(when(b.broken(), brokenErr), when(badName(name), nameErr), when(class < 0 || class > 7 || share < 1 || share > 255, classErr), when(is, sameErr), when(len(b.fetches) == 64, fetchesErr))
	if e != api.OK {
		return 0, e
	}
	f := &mFetch{class: class, share: share}
	f.Name, f.State = name, b.begins(name)
	b.fetches = append(b.fetches, f)
	b.work()
	return len(b.fetches), api.OK
}

// at is a fetch, if it is there and in one of these states.
func (b *byBook) at(n int, e api.Errno, states ...int) (*mFetch, api.Errno) {
	if e != api.OK {
		return nil, e
	}
	if n < 1 || n > len(b.fetches) {
		return nil, noFetchErr
	}
	f := b.fetches[n-1]
	return f, when(!slices.Contains(states, f.State), stateErr)
}

func (b *byBook) cancel(n int) api.Errno {
	f, e := b.at(n, when(b.broken(), brokenErr), asking, getting)
	if e == api.OK {
		b.drop(f.Stream)
		f.State, f.Stream = cancelled, 0
		b.work()
	}
	return e
}

func (b *byBook) again(n int) api.Errno {
	f, e := b.at(n, when(b.broken(), brokenErr), missing, changed, failed, cancelled)
	if e == api.OK {
		if f.State == changed {
			delete(b.knows, f.Name)
		}
		f.State = b.begins(f.Name)
		b.work()
	}
	return e
}

func (b *byBook) data(n int) (string, api.Errno) {
	f, e := b.at(n, api.OK, done)
	if e != api.OK {
		return "", e
	}
	k, s := b.knows[f.Name], ""
	for i := range k.count() {
		s += k.have[i]
	}
	return s, api.OK
}

func (b *byBook) sync() api.Errno {
	if b.log == nil {
		return api.OK
	}
	return b.log.Sync()
}

func (b *byBook) feed(p []byte) api.Errno {
	b.m.Feed(p)
	b.work()
	return when(b.broken(), brokenErr)
}

func (b *byBook) out(most int) []byte {
	b.work()
	return b.m.Out(most)
}

func (b *byBook) look() api.TransferStat {
	s := api.TransferStat{Mux: b.m.Stat(), Serving: len(b.served)}
	for _, f := range b.offers {
		s.Offers = append(s.Offers, f.manifest())
	}
	slices.SortFunc(s.Offers, func(x, y api.Manifest) int { return strings.Compare(x.Name, y.Name) })
	for _, f := range b.fetches {
		v := f.FetchView
		if k := b.knows[f.Name]; k != nil {
			v.Manifest, v.Have = k.m, len(k.have)
		}
		s.Fetches = append(s.Fetches, v)
	}
	return s
}

func (b *byBook) drop(id uint64) {
	if id != 0 {
		b.m.Reset(id, 1)
		b.m.Stop(id, 1)
	}
}

func (b *byBook) work() {
	if b.broken() {
		return
	}
	for id, ok := b.m.Accept(); ok; id, ok = b.m.Accept() {
		b.served = append(b.served, &mServed{id: id})
	}
	for _, s := range slices.Clone(b.served) {
		if b.serve(s) {
			b.served = slices.DeleteFunc(b.served, func(o *mServed) bool { return o == s })
		}
	}
	for _, f := range b.fetches {
		for b.goOn(f) {
		}
	}
}

// serve tells whether the stream is served no more.
func (b *byBook) serve(s *mServed) bool {
	for !s.through {
		p, ended, e := b.m.Read(s.id, 804)
		s.request = append(s.request, p...)
		if e != api.OK || len(s.request) > 803 {
			b.drop(s.id)
			return true
		}
		if ended {
			s.through = true
			s.answer = b.answer(s.request)
			if s.answer == nil {
				b.drop(s.id)
				return true
			}
		} else if len(p) == 0 {
			return false
		}
	}
	n, e := b.m.Write(s.id, s.answer)
	if e != api.OK {
		b.drop(s.id)
		return true
	}
	s.answer = s.answer[n:]
	if len(s.answer) == 0 {
		b.m.Close(s.id)
	}
	return len(s.answer) == 0
}

// answer is all of the answer to a request; none to an ill-formed one.
func (b *byBook) answer(q []byte) []byte {
	if len(q) < 2 || len(q) < 2+int(q[1]) {
		return nil
	}
	name, rest := string(q[2:2+q[1]]), q[2+int(q[1]):]
	f, is := b.offers[name]
	if q[0] == 'M' && len(rest) == 0 {
		if !is {
			return []byte("N")
		}
		return []byte(f.answer())
	}
	if q[0] != 'P' || len(rest) < 34 {
		return nil
	}
	root, n, list := api.Sum(rest[:32]), int(binary.BigEndian.Uint16(rest[32:])), rest[34:]
	if n < 1 || n > 64 || len(list) != 8*n {
		return nil
	}
	var numbers []int
	last := -1
	for r := range slices.Chunk(list, 8) {
		lo, hi := int(binary.BigEndian.Uint32(r)), int(binary.BigEndian.Uint32(r[4:]))
		if lo <= last || hi <= lo {
			return nil
		}
		for i := lo; i < hi && is && i <= f.count(); i++ {
			numbers = append(numbers, i)
		}
		last = hi
	}
	switch {
	case !is:
		return []byte("N")
	case f.root() != root:
		return []byte("C")
	case last > f.count():
		return nil
	}
	return []byte(f.parts(numbers...))
}

// goOn tells whether something has become of a fetch.
func (b *byBook) goOn(f *mFetch) bool {
	if f.State != asking && f.State != getting {
		return false
	}
	state, stream := f.State, f.Stream
	if stream == 0 {
		b.ask(f)
	} else {
		b.listen(f)
	}
	return f.State != state || f.Stream != stream
}

func (b *byBook) ask(f *mFetch) {
	id, e := b.m.Open(f.class, f.share)
	if e == api.ErrMuxAway {
		f.State = failed
	}
	if e != api.OK {
		return
	}
	f.Stream, f.came, f.numbers, f.took = id, nil, nil, 0
	f.Asked++
	q := requestM(f.Name)
	if k := b.knows[f.Name]; k != nil {
		var l []int
		for i, r := range k.lacks(b.batch) {
			if i == 64 {
				break
			}
			l = append(l, int(r.Lo), int(r.Hi))
			for n := r.Lo; n < r.Hi; n++ {
				f.numbers = append(f.numbers, int(n))
			}
		}
		q = requestP(f.Name, k.m.Root, l...)
	}
	b.m.Write(id, []byte(q))
	b.m.Close(id)
}

func (b *byBook) listen(f *mFetch) {
	for {
		p, ended, e := b.m.Read(f.Stream, 65536)
		f.came = append(f.came, p...)
		v, k := judgeM(f.Name, f.came), b.knows[f.Name]
		if f.numbers != nil {
			v = judgeP(k.m, f.numbers, f.came)
			for ; f.took < v.took; f.took++ {
				i, data := f.numbers[f.took], pieceAt(k.m, f.numbers, f.came, f.took)
				k.have[i] = data
				b.keep(2, pieceRecord(f.Name, k.m.Root, i, data))
			}
		}
		switch {
		case e != api.OK || v.wrong || ended && !v.whole:
			b.drop(f.Stream)
			f.State, f.Stream = failed, 0
			return
		case ended:
			if v.m.Name != "" {
				b.knows[f.Name] = &knowing{m: v.m, have: map[int]string{}}
				body, _ := pieces.Encode(v.m)
				b.keep(1, body)
			}
			f.State, f.Stream = v.state, 0
			if v.state == 0 {
				f.State = b.begins(f.Name)
			}
			return
		case len(p) == 0:
			return
		}
	}
}

func (b *byBook) keep(kind byte, body []byte) {
	if b.log != nil {
		b.log.Append(kind, body)
	}
}
