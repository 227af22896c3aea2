package wire

import "braid/api"

// The bytes of the two kinds of proof.
const (
	joinedMac = 8
	proveMac  = 20
)

// Fit tells whether a frame can be written.
func Fit(f api.Frame) bool {
	return known(f.Kind) && f.Path >= 0 && f.Path < api.MaxPaths && bounded(f) && blank(stripped(f))
}

// bounded tells whether the fields of f's kind are within their bounds. What several kinds begin with is looked at by the last of them.
func bounded(f api.Frame) bool {
	switch f.Kind {
	case kindData:
		n := len(f.Data)
		if n < 1 || n > api.MaxMss || f.Off > api.MaxOff-uint64(n) {
			return false
		}
		fallthrough
	case kindFin:
		if f.Off > api.MaxOff {
			return false
		}
		fallthrough
	case kindProbe:
		return f.Num <= api.MaxNum
	case kindAck:
		return len(f.Ranges) >= 1 && len(f.Ranges) <= api.MaxRanges && apart(f.Ranges)
	case kindDack:
		return f.Off <= api.MaxOff+1 && f.Edge <= api.MaxEdge
	case kindJoined:
		return len(f.Mac) == joinedMac
	case kindProve:
		return len(f.Mac) == proveMac
	case kindGone:
		return f.Which >= 0 && f.Which < api.MaxPaths
	}
	return true
}

// apart tells whether the ranges have numbers, rise, and leave at least one number out between one another: so a set of numbers has one list.
func apart(list []api.Range) bool {
	for i, r := range list {
		if r.Lo >= r.Hi || r.Hi > api.MaxNum+1 {
			return false
		}
		if i > 0 && r.Lo <= list[i-1].Hi {
			return false
		}
	}
	return true
}

// stripped is f without the fields of its kind.
func stripped(f api.Frame) api.Frame {
	switch f.Kind {
	case kindData:
		f.Data = nil
		fallthrough
	case kindFin:
		f.Off = 0
		fallthrough
	case kindProbe:
		f.Num = 0
	case kindAck:
		f.Ranges = nil
	case kindDack:
		f.Off, f.Edge = 0, 0
	case kindJoin:
		f.Nonce, f.Backup = 0, false
		fallthrough
	case kindRst:
		f.Token = 0
	case kindJoined:
		f.Nonce = 0
		fallthrough
	case kindProve:
		f.Mac = nil
	case kindPrio:
		f.Backup = false
	case kindGone:
		f.Which = 0
	}
	return f
}

// blank tells whether all fields beside Kind and Path are zero.
func blank(f api.Frame) bool {
	numbers := f.Num == 0 && f.Off == 0 && f.Edge == 0 && f.Token == 0 && f.Nonce == 0 && f.Which == 0
	return numbers && !f.Backup && len(f.Data) == 0 && len(f.Ranges) == 0 && len(f.Mac) == 0
}
