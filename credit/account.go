package credit

import "braid/api"

// account is the numbers of one stream, or of all together. No sum of them wraps round: what has come is at most what was told, that is at most MaxLimit, and a room is far below it.
type account struct {
	sent, may        uint64
	came, used, told uint64
}

// newAccount begins with what either side grants.
func newAccount(own, peer uint64) account { return account{may: peer, told: own} }

// left is how many bytes may go out.
func (a *account) left() uint64 { return a.may - a.sent }

func (a *account) spend(n uint64) { a.sent += n }

// raise hears a limit: is it news?
func (a *account) raise(limit uint64) bool {
	rises := limit > a.may
	a.may = max(a.may, limit)
	return rises
}

// awaited is how many bytes may come.
func (a *account) awaited() uint64 { return a.told - a.came }

func (a *account) take(n uint64) { a.came += n }

// unused is how many bytes have come and are not used.
func (a *account) unused() uint64 { return a.came - a.used }

func (a *account) use(n uint64) { a.used += n }

// tell makes the limit the one that is told, if it is due by the room that this side grants: is it?
func (a *account) tell(room uint64) bool {
	limit := min(a.used+room, api.MaxLimit)
	due := limit-a.told >= room-room/2
	if due {
		a.told = limit
	}
	return due
}

func (a *account) view(id uint64) api.RoomView {
	return api.RoomView{Stream: id, Sent: a.sent, May: a.may, Came: a.came, Used: a.used, Told: a.told}
}

// stream is one that is open or left.
type stream struct {
	account
	open bool
	deaf bool
}

// gone tells whether nothing is left of a stream behind its Close.
func (s *stream) gone() bool { return !s.open && s.unused() == 0 }

// tells is whether its limit is of use to anybody.
func (s *stream) tells() bool { return s.open && !s.deaf }

func (s *stream) view(id uint64) api.RoomView {
	v := s.account.view(id)
	v.Deaf = s.deaf
	return v
}
