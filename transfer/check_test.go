package transfer_test

import (
	"bytes"
	"crypto/sha256"
	"encoding/binary"
	"fmt"
	"math"
	"reflect"
	"slices"
	"strings"
	"testing"

	"braid/api"
	"braid/journal"
	"braid/mux"
	"braid/pieces"
	"braid/transfer"
)

const (
	configErr  = api.ErrTransferConfig
	brokenErr  = api.ErrTransferBroken
	thereErr   = api.ErrOfferThere
	offersErr  = api.ErrOfferMany
	noOfferErr = api.ErrOfferNone
	sameErr    = api.ErrFetchThere
	fetchesErr = api.ErrFetchMany
	noFetchErr = api.ErrFetchNone
	stateErr   = api.ErrFetchState
	classErr   = api.ErrMuxClass
	nameErr    = api.ErrPieceName
	cutErr     = api.ErrPieceCut
	longErr    = api.ErrPieceLong
	deadErr    = api.ErrLogDead
)

const (
	asking    = api.FetchAsking
	getting   = api.FetchGetting
	done      = api.FetchDone
	missing   = api.FetchMissing
	changed   = api.FetchChanged
	failed    = api.FetchFailed
	cancelled = api.FetchCancelled
)

// dice gives the same row of numbers in every run.
type dice uint64

func (d *dice) below(n int) int {
	*d = *d*6364136223846793005 + 1442695040888963407
	return int(uint64(*d) >> 33 % uint64(n))
}

// one is one of these.
func (d *dice) one(of ...int) int { return of[d.below(len(of))] }

func (d *dice) bytes(n int) []byte {
	b := make([]byte, n)
	for i := range b {
		b[i] = byte(d.below(256))
	}
	return b
}

func rooms(all, each uint64, streams int) api.Rooms {
	return api.Rooms{All: all, Each: each, Streams: streams}
}

// config is one whose sides grant the same.
func config(r api.Rooms, hold, batch int) api.TransferConfig {
	return api.TransferConfig{Mux: api.MuxConfig{Own: r, Peer: r, Hold: hold, Quantum: 100}, Batch: batch}
}

// small is the configuration of the chapter's examples.
func small() api.TransferConfig { return config(rooms(100, 50, 2), 1024, 2) }

// wide is one in which nothing is scarce.
func wide() api.TransferConfig { return config(rooms(1<<30, 1<<26, 200), 1<<22, 2) }

// check is a Transfer whose answers are held against what is awaited. A call that answers an error must leave it as it was.
type check struct {
	t *testing.T
	x *transfer.Transfer
}

func begin(t *testing.T, side int, c api.TransferConfig, log *journal.Log) check {
	t.Helper()
	x, e := transfer.New(side, c, log)
	if e != api.OK || x == nil {
		t.Fatalf("New(%d, %v): %d", side, c, e)
	}
	return check{t, x}
}

// is holds a call's answer against what is awaited.
func (c check) is(what string, before api.TransferStat, got, want api.Errno) {
	c.t.Helper()
	if got != want {
		c.t.Errorf("%s: %d, want %d", what, got, want)
	}
	if after := c.x.Stat(); want != api.OK && !reflect.DeepEqual(before, after) {
		c.t.Errorf("%s, which is an error, has changed\n%+v to\n%+v", what, before, after)
	}
}

func (c check) offer(name, data string, piece int, want api.Errno) {
	c.t.Helper()
	before := c.x.Stat()
	c.is(fmt.Sprintf("Offer(%.20q, %d bytes, %d)", name, len(data), piece), before, c.x.Offer(name, []byte(data), piece), want)
}

func (c check) withdraw(name string, want api.Errno) {
	c.t.Helper()
	before := c.x.Stat()
	c.is(fmt.Sprintf("Withdraw(%.20q)", name), before, c.x.Withdraw(name), want)
}

func (c check) fetch(name string, class, share, want int, wantErr api.Errno) {
	c.t.Helper()
	before := c.x.Stat()
	n, e := c.x.Fetch(name, class, share)
	c.is(fmt.Sprintf("Fetch(%.20q, %d, %d)", name, class, share), before, e, wantErr)
	if n != want {
		c.t.Errorf("Fetch(%.20q): number %d, want %d", name, n, want)
	}
}

func (c check) cancel(n int, want api.Errno) {
	c.t.Helper()
	before := c.x.Stat()
	c.is(fmt.Sprintf("Cancel(%d)", n), before, c.x.Cancel(n), want)
}

func (c check) again(n int, want api.Errno) {
	c.t.Helper()
	before := c.x.Stat()
	c.is(fmt.Sprintf("Again(%d)", n), before, c.x.Again(n), want)
}

// data asks for a file, by which nothing may change.
func (c check) data(n int, want string, wantErr api.Errno) {
	c.t.Helper()
	before := c.x.Stat()
	b, e := c.x.Data(n)
	c.is(fmt.Sprintf("Data(%d)", n), before, e, wantErr)
	if string(b) != want || e != api.OK && b != nil {
		c.t.Errorf("Data(%d): %.40q, want %.40q", n, b, want)
	}
	if !reflect.DeepEqual(before, c.x.Stat()) {
		c.t.Errorf("Data(%d) has changed something", n)
	}
}

func (c check) sync(want api.Errno) {
	c.t.Helper()
	before := c.x.Stat()
	c.is("Sync", before, c.x.Sync(), want)
}

func (c check) feed(b []byte, want api.Errno) {
	c.t.Helper()
	if e := c.x.Feed(b); e != want {
		c.t.Errorf("Feed(%.40x): %d, want %d", b, e, want)
	}
}

// view is a fetch, looked at.
func (c check) view(n int) api.FetchView {
	c.t.Helper()
	l := c.x.Stat().Fetches
	if n < 1 || n > len(l) {
		c.t.Fatalf("there is no fetch %d of %d", n, len(l))
	}
	return l[n-1]
}

// stands tells how a fetch is: its state, how many pieces are there, how many requests were made, and its stream.
func (c check) stands(n, state, have, asked int, stream uint64) {
	c.t.Helper()
	if v := c.view(n); v.State != state || v.Have != have || v.Asked != asked || v.Stream != stream {
		c.t.Errorf("fetch %d: state %d, have %d, asked %d, stream %d, want %d, %d, %d, %d", n, v.State, v.Have, v.Asked, v.Stream, state, have, asked, stream)
	}
}

// serves tells how many streams are served.
func (c check) serves(n int) {
	c.t.Helper()
	if got := c.x.Stat().Serving; got != n {
		c.t.Errorf("%d streams are served, want %d", got, n)
	}
}

// breaks feeds what is no frame.
func (c check) breaks() {
	c.t.Helper()
	c.feed([]byte{0}, brokenErr)
}

// file is a file with its digests, reckoned by Go's library.
type file struct {
	name   string
	data   string
	piece  int
	leaves [][]byte
	sum    api.Sum // the root
}

func fileOf(name, data string, piece int) file {
	f := file{name: name, data: data, piece: piece}
	for i := range f.count() {
		f.leaves = append(f.leaves, digest("\x00"+f.cut(i)))
	}
	f.sum = api.Sum(over(f.leaves))
	return f
}

func digest(s string) []byte {
	d := sha256.Sum256([]byte(s))
	return d[:]
}

func (f file) count() int { return (len(f.data) + f.piece - 1) / f.piece }

// cut is a piece.
func (f file) cut(i int) string { return f.data[i*f.piece : min((i+1)*f.piece, len(f.data))] }

// over is the root over leaves.
func over(l [][]byte) []byte {
	switch len(l) {
	case 0:
		return digest("")
	case 1:
		return l[0]
	}
	k := firstPart(len(l))
	return digest("\x01" + string(over(l[:k])) + string(over(l[k:])))
}

// firstPart is the greatest power of two below n.
func firstPart(n int) int {
	k := 1
	for k < n-k {
		k *= 2
	}
	return k
}

func (f file) root() api.Sum { return f.sum }

// path is what leads from the leaf i of l to the root.
func path(l [][]byte, i int) [][]byte {
	if len(l) == 1 {
		return nil
	}
	k := firstPart(len(l))
	if i < k {
		return append(path(l[:k], i), over(l[k:]))
	}
	return append(path(l[k:], i-k), over(l[:k]))
}

func (f file) manifest() api.Manifest {
	return api.Manifest{Name: f.name, Size: len(f.data), Piece: f.piece, Root: f.root()}
}

// The answers, as the chapter tells them.
func answerM(m api.Manifest) string {
	b, e := pieces.Encode(m)
	if e != api.OK {
		panic(fmt.Sprint("no manifest: ", e))
	}
	return "Y" + two(len(b)) + string(b)
}

func (f file) answer() string { return answerM(f.manifest()) }

// part is a piece's part of an answer.
func (f file) part(i int) string {
	p := path(f.leaves, i)
	return four(i) + string([]byte{byte(len(p))}) + string(slices.Concat(p...)) + f.cut(i)
}

func (f file) parts(numbers ...int) string {
	s := "Y"
	for _, i := range numbers {
		s += f.part(i)
	}
	return s
}

func two(n int) string  { return string(binary.BigEndian.AppendUint16(nil, uint16(n))) }
func four(n int) string { return string(binary.BigEndian.AppendUint32(nil, uint32(n))) }

// The requests.
func requestM(name string) string { return "M" + string([]byte{byte(len(name))}) + name }

func requestP(name string, root api.Sum, stretches ...int) string {
	s := "P" + string([]byte{byte(len(name))}) + name + string(root[:]) + two(len(stretches)/2)
	for _, n := range stretches {
		s += four(n)
	}
	return s
}

func (f file) ask(stretches ...int) string { return requestP(f.name, f.root(), stretches...) }

// The records.
func recordM(f file) []byte {
	b, _ := pieces.Encode(f.manifest())
	return b
}

func recordP(f file, i int) []byte { return pieceRecord(f.name, f.root(), i, f.cut(i)) }

func pieceRecord(name string, root api.Sum, i int, data string) []byte {
	return []byte(string([]byte{byte(len(name))}) + name + string(root[:]) + four(i) + data)
}

// letters is n bytes, any two stretches of which are unlike.
func letters(n int) string {
	var b strings.Builder
	for i := 0; b.Len() < n; i++ {
		fmt.Fprintf(&b, "%d,", i)
	}
	return b.String()[:n]
}

// newLog is an empty log on a disk of so many bytes.
func newLog(t *testing.T, size int) (*journal.Log, *journal.Disk) {
	t.Helper()
	d, e := journal.NewDisk(size)
	if e != api.OK {
		t.Fatal(e)
	}
	l, e := journal.Open(d)
	if e != api.OK {
		t.Fatal(e)
	}
	return l, d
}

// logOf is a log with records, whose kinds stand ahead of their bodies, and with room for more.
func logOf(t *testing.T, records ...[]byte) *journal.Log {
	t.Helper()
	size := 2000
	for _, r := range records {
		size += len(r) + 17
	}
	l, _ := newLog(t, size)
	for _, r := range records {
		if _, e := l.Append(r[0], r[1:]); e != api.OK {
			t.Fatal(e)
		}
	}
	return l
}

func kind(k byte, body []byte) []byte { return append([]byte{k}, body...) }

// recorded holds a log's records against what is awaited, their kinds ahead of their bodies.
func recorded(t *testing.T, l *journal.Log, want ...[]byte) {
	t.Helper()
	var got [][]byte
	for _, r := range l.Records() {
		got = append(got, kind(r.Kind, r.Body))
	}
	if !slices.EqualFunc(got, want, bytes.Equal) {
		t.Errorf("the log has %d records, %.200q, want %d, %.200q", len(got), got, len(want), want)
	}
}

// peer is a mux at the other side of a Transfer, by which anything can be asked and answered.
type peer struct {
	check
	m *mux.Mux
}

func facing(t *testing.T, c api.TransferConfig, log *journal.Log) peer {
	t.Helper()
	p := peer{check: begin(t, 0, c, log)}
	other := c.Mux
	other.Own, other.Peer = c.Mux.Peer, c.Mux.Own
	m, e := mux.New(1, other)
	if e != api.OK {
		t.Fatal(e)
	}
	p.m = m
	return p
}

// pass lets all go out and arrive, till neither side has anything to give.
func (p peer) pass() {
	p.t.Helper()
	for {
		a := p.x.Out(math.MaxInt)
		if e := p.m.Feed(a); e != api.OK {
			p.t.Fatalf("the peer is broken: %d", p.m.Stat().Broken)
		}
		b := p.m.Out(math.MaxInt)
		if e := p.x.Feed(b); e != api.OK {
			p.t.Fatalf("the Transfer is broken: %d", p.x.Stat().Mux.Broken)
		}
		if len(a)+len(b) == 0 {
			return
		}
	}
}

// read is all that has come on a stream, and whether it has ended.
func (p peer) read(id uint64) (string, bool, api.Errno) {
	var all []byte
	for {
		b, ended, e := p.m.Read(id, 1<<20)
		all = append(all, b...)
		if ended || e != api.OK || len(b) == 0 {
			return string(all), ended, e
		}
	}
}

// asked takes the next stream of the Transfer's, which must have this request on it, and its end.
func (p peer) asked(id uint64, want string) {
	p.t.Helper()
	p.pass()
	got, ok := p.m.Accept()
	if !ok || got != id {
		p.t.Fatalf("stream %d, %v is asked on, want %d", got, ok, id)
	}
	s, ended, e := p.read(id)
	if s != want || !ended || e != api.OK {
		p.t.Fatalf("stream %d: the request %q, ended %v, error %d, want %q", id, s, ended, e, want)
	}
}

// quiet is when the Transfer asks for nothing more.
func (p peer) quiet() {
	p.t.Helper()
	p.pass()
	if id, ok := p.m.Accept(); ok {
		s, _, _ := p.read(id)
		p.t.Errorf("stream %d is asked on: %q", id, s)
	}
}

// write writes on a stream, and lets it arrive.
func (p peer) write(id uint64, s string) {
	p.t.Helper()
	if n, e := p.m.Write(id, []byte(s)); n != len(s) || e != api.OK {
		p.t.Fatalf("stream %d takes %d of %d bytes: %d", id, n, len(s), e)
	}
	p.pass()
}

// ends ends a stream.
func (p peer) ends(id uint64) {
	p.t.Helper()
	if e := p.m.Close(id); e != api.OK {
		p.t.Fatalf("stream %d can't be closed: %d", id, e)
	}
	p.pass()
}

// answers answers on a stream at once.
func (p peer) answers(id uint64, s string) {
	p.t.Helper()
	if n, e := p.m.Write(id, []byte(s)); n != len(s) || e != api.OK {
		p.t.Fatalf("stream %d takes %d of %d bytes: %d", id, n, len(s), e)
	}
	p.ends(id)
}

// ask opens a stream with a request on it.
func (p peer) ask(s string) uint64 {
	p.t.Helper()
	id := p.open()
	p.answers(id, s)
	return id
}

func (p peer) open() uint64 {
	p.t.Helper()
	id, e := p.m.Open(0, 1)
	if e != api.OK {
		p.t.Fatalf("no stream can be opened: %d", e)
	}
	return id
}

// told is the answer to a request that has come whole, with its end.
func (p peer) told(id uint64, want string) {
	p.t.Helper()
	if s, ended, e := p.read(id); s != want || !ended || e != api.OK {
		p.t.Errorf("stream %d: %.60q, %d bytes, ended %v, error %d, want %.60q, %d bytes", id, s, len(s), ended, e, want, len(want))
	}
}

// dropped is when the Transfer has given a stream up that it served: with the code 1, and so it wants nothing more of it.
func (p peer) dropped(id uint64) {
	p.t.Helper()
	v := p.half(id)
	if v.Getting != api.HalfReset || v.Code != 1 {
		p.t.Errorf("stream %d is not dropped: %+v", id, v)
	}
}

// half is a stream of the peer's mux, looked at.
func (p peer) half(id uint64) api.MuxView {
	for _, v := range p.m.Stat().Streams {
		if v.Stream == id {
			return v
		}
	}
	return api.MuxView{}
}
