package audit_test

import (
	"strings"
	"testing"

	"braid/api"
)

// RuleForm: bytes that are no frame, or one of another path. It stands alone, and such a frame counts as nothing.
func TestRuleForm(t *testing.T) {
	each(t, all(), func(d *desk, side, path int) {
		good := coded(on(path, probe(0)))
		turned := string(good[:13]) + string(good[13]^1)
		other := string(coded(on(1-path, probe(0))))
		for _, what := range []int{api.EventSent, api.EventLost} {
			for range 2 {
				for _, text := range []string{"", "\x01\x02", turned, string(good[:13]), string(good) + "x", other, strings.Repeat("x", 1049)} {
					d.shows(raw(what, side, path, text), form)
				}
			}
		}
		d.shows(raw(api.EventSent, side, path, string(good)))
		for _, what := range []int{api.EventHeard, api.EventDropped, api.EventDoubled, api.EventSpoilt} {
			d.shows(raw(what, side, path, turned))
			d.shows(raw(what, side, path, other))
		}
		d.shows(raw(api.EventSent, side, 1-path, other))
		d.fine(sent(side, on(path, rst(d.c.Keys[1-side]))))
		d.shows(raw(api.EventSent, side, path, turned), form)
		d.shows(sent(side, on(path, dack(0, 0))), after)
	})
}

// RuleNumber: each path and side has numbers of its own, of DATA, FIN and PROBE alone; what found no place counts, what can't be read does not.
func TestRuleNumber(t *testing.T) {
	each(t, many(), func(d *desk, side, path int) {
		n := func(f api.Frame) api.Frame { return on(path, f) }
		base := d.off(side, 0)
		d.shows(sent(side, n(probe(1))), number)
		d.shows(sent(side, n(probe(0))), number)
		d.shows(sent(side, n(probe(1))), number)
		d.shows(sent(side, n(probe(api.MaxNum))), number)
		d.fine(sent(side, n(data(4, base, "ab"))), lost(side, n(fin(5, base+9))), lost(side, n(data(6, base, "ab"))))
		d.shows(raw(api.EventSent, side, path, "x"), form)
		d.fine(sent(side, n(dack(0, 0))), sent(side, n(prio())), sent(side, n(gone(1))))
		d.shows(sent(side, n(data(8, base, "ab"))), number)
		d.shows(sent(side, n(fin(7, base+9))), number)
		d.fine(sent(side, n(probe(9))))
		d.shows(sent(side, n(probe(9))), number)
		d.fine(sent(side, on(1-path, probe(0))), sent(1-side, n(probe(0))), sent(1-side, on(1-path, probe(0))), sent(side, on(1-path, probe(1))))
		d.fine(heard(side, n(probe(9))))
		if path == 0 {
			d.fine(sent(1-side, n(dack(base, base))))
		}
		d.fine(sent(side, n(probe(11))))
	})
}

// RuleNumber of a single path: a PROBE has 0, a chunk its place in the order in which each was sent for the first time.
func TestRuleNumberSingle(t *testing.T) {
	each(t, []int{api.Single}, func(d *desk, side, path int) {
		send := func(f api.Frame, broken ...int) {
			t.Helper()
			d.shows(sent(side, on(path, f)), broken...)
		}
		base := d.off(side, 0)
		send(probe(0))
		send(probe(1), number)
		send(probe(0))
		send(data(0, base, "ab"))
		send(data(0, base, "ab"))
		send(data(1, base, "ab"), number)
		send(data(0, base+2, "cd"), number) // its place is 1 from now on, whatever it bore
		send(data(1, base+2, "cd"))
		send(data(2, base+2, "cd"), number)
		send(data(3, base+6, "g"), number)
		send(data(2, base+6, "g"))
		send(data(3, base+4, "e"))
		send(probe(3), number)
		send(data(4, base+6, "gh"), cut)  // another length
		send(fin(5, base+8))              // another kind
		send(fin(5, base+8))              // sent again
		send(fin(6, base+9), end)         // another offset
		send(fin(5, base+9), number, end) // whose place is 6
		send(data(7, base+7, "h"), cut)   // another offset
		send(data(0, base, "ab"))         // the first one still
		d.fine(sent(1-side, probe(0)))    // the other side has its own
		d.fine(sent(1-side, fin(0, d.off(1-side, 9))))
		d.fine(sent(side, on(1-path, data(3, base+4, "e")))) // but of all paths they are one row
		d.shows(sent(side, on(1-path, data(0, base+5, "f"))), number)
		d.fine(lost(side, on(1-path, data(8, base+5, "f"))))
	})
}

// RuleEdge: up to the first edge; from there on up to the greatest that a DACK has told that was heard.
func TestRuleEdge(t *testing.T) {
	each(t, all(), func(d *desk, side, path int) {
		peer, to := 1-side, func(n uint64) uint64 { return d.off(side, n) }
		d.fine(sent(side, d.piece(side, path, 8, "ijkl")))
		d.shows(sent(side, d.piece(side, path, 12, "m")), edge)
		d.shows(lost(side, d.piece(side, path, 12, "m")), edge)
		d.fine(sent(side, d.ending(side, path, 20)))
		d.come(side, d.piece(side, path, 0, "abcd"))
		told := on(path, dack(to(4), to(16)))
		d.fine(sent(peer, told))
		d.shows(sent(side, d.piece(side, path, 12, "m")), edge) // told, and not heard
		d.fine(lost(side, on(path, dack(d.off(peer, 0), d.off(peer, 12)))))
		d.shows(sent(side, d.piece(side, path, 12, "m")), edge) // its own tells it nothing
		d.fine(heard(peer, told))
		d.fine(sent(side, d.piece(side, path, 12, "m")))
		d.fine(sent(side, d.piece(side, path, 13, "nop")))
		d.shows(sent(side, d.piece(side, path, 16, "q")), edge)
		d.shows(sent(peer, on(1-path, dack(to(4), to(11)))), dacks)
		d.fine(heard(peer, on(1-path, dack(to(4), to(11)))))
		d.fine(sent(side, d.piece(side, path, 13, "nop"))) // no edge falls
		d.fine(raw(api.EventDropped, peer, path, string(coded(told))), raw(api.EventSpoilt, peer, path, string(coded(told))), raw(api.EventDoubled, peer, path, string(coded(told))))
		d.shows(sent(peer, on(1-path, dack(to(4), to(17)))), dacks)
		d.fine(raw(api.EventHeard, peer, path, string(coded(on(1-path, dack(to(4), to(17)))))))
		d.shows(sent(side, d.piece(side, path, 16, "q")), edge) // heard on a path that is not its own
		d.fine(heard(peer, on(1-path, dack(to(4), to(17)))))
		d.fine(sent(side, d.piece(side, path, 16, "q")))
		d.shows(sent(side, d.piece(side, path, 17, "r")), edge)
	})
}

// RuleBytes: each offset has the byte that the first DATA said, on whatever path.
func TestRuleBytes(t *testing.T) {
	each(t, all(), func(d *desk, side, path int) {
		send := func(path int, n uint64, text string, broken ...int) {
			t.Helper()
			d.shows(sent(side, d.piece(side, path, n, text)), broken...)
		}
		send(path, 2, "cdef")
		send(path, 2, "cdef")
		send(path, 2, "xdef", says)
		send(path, 2, "xdef", says)
		send(1-path, 2, "cdex", says)
		send(1-path, 2, "cdef")
		send(path, 3, "d", cut)
		send(path, 3, "c", says)
		send(path, 4, "ef", cut)
		send(path, 4, "eg", says)
		send(path, 0, "abcd", cut)
		send(path, 0, "abcx", says)
		send(path, 0, "ab", cut)
		send(path, 1, "Z", says, cut)
		send(path, 6, "gh")
		send(path, 8, "Z")
		send(path, 8, "i", says)
		send(path, 8, "Z")
		d.fine(sent(1-side, d.piece(1-side, path, 2, "1234")))
		d.shows(lost(side, d.piece(side, path, 6, "hg")), says)
		d.shows(raw(api.EventSent, side, path, "x"), form)
	})
}

// RuleCut: at most Mss bytes, and just those of an earlier DATA or none that one had.
func TestRuleCut(t *testing.T) {
	each(t, all(), func(d *desk, side, path int) {
		send := func(path int, n uint64, text string, broken ...int) {
			t.Helper()
			d.shows(sent(side, d.piece(side, path, n, text)), broken...)
		}
		send(path, 3, "defg")
		send(path, 7, "hijk")
		send(path, 0, "abc")
		send(1-path, 3, "defg")
		send(1-path, 3, "def", cut)
		send(1-path, 3, "def") // as an earlier one
		send(path, 3, "d", cut)
		send(path, 6, "g", cut)
		send(path, 6, "gh", cut)
		send(path, 7, "hij", cut)
		send(path, 8, "ijk", cut)
		send(path, 2, "de", says, cut)
		send(path, 11, "l")
		send(path, 0, "abcde", cut)
		send(path, 0, "abcde", cut)
		send(path, 0, "abcdefgh", cut)
		d.shows(lost(side, d.piece(side, path, 1, "bc")), cut)
		d.fine(lost(side, d.piece(side, path, 1, "bc")))
		d.fine(sent(1-side, d.piece(1-side, path, 4, "4567")))
		d.fine(sent(1-side, d.piece(1-side, 1-path, 2, "23")))
		d.shows(sent(1-side, d.piece(1-side, 1-path, 3, "3")), cut)
		d.shows(sent(1-side, d.piece(1-side, 1-path, 8, "89012")), edge, cut)
	})
}

// RuleEnd: DATA behind an end, an end ahead of DATA, another end; in each order.
func TestRuleEnd(t *testing.T) {
	each(t, all(), func(d *desk, side, path int) {
		shut := func(n uint64, broken ...int) {
			t.Helper()
			d.shows(sent(side, d.ending(side, path, n)), broken...)
		}
		send := func(n uint64, text string, broken ...int) {
			t.Helper()
			d.shows(sent(side, d.piece(side, 1-path, n, text)), broken...)
		}
		send(0, "abcd")
		shut(3, end)
		shut(4, end) // another one than 3
		shut(3, end)
		shut(5, end)
		send(0, "abcd", end) // behind 3
		send(4, "e", end)
		d.fine(sent(1-side, d.ending(1-side, path, 4)))
		d.fine(sent(1-side, d.piece(1-side, path, 0, "abcd")))
		d.fine(sent(1-side, d.ending(1-side, 1-path, 4)))
		d.shows(sent(1-side, d.piece(1-side, path, 4, "e")), end)
		d.shows(sent(1-side, d.ending(1-side, 1-path, 4)), end) // now a DATA reaches beyond it
		d.shows(lost(1-side, d.ending(1-side, 1-path, 5)), end)
	})
	each(t, all(), func(d *desk, side, path int) {
		d.fine(sent(side, d.ending(side, path, 9)))
		d.fine(lost(side, d.ending(side, 1-path, 9)))
		d.fine(sent(side, d.piece(side, path, 7, "hi")))
		d.shows(sent(side, d.piece(side, path, 9, "j")), end)
		d.fine(sent(side, d.piece(side, path, 0, "a")))
		d.shows(sent(side, d.ending(side, 1-path, 8)), end)
		d.shows(sent(side, d.piece(side, path, 7, "hi")), end) // beyond the less one
	})
}

// RuleAck: numbers of DATA, FIN and PROBE that were heard on the same path.
func TestRuleAck(t *testing.T) {
	each(t, many(), func(d *desk, side, path int) {
		peer := 1 - side
		says := func(f api.Frame, broken ...int) {
			t.Helper()
			d.shows(sent(side, on(path, f)), broken...)
		}
		says(ack(0, 1), acks)
		says(ack(0, 1), acks)
		d.come(peer, d.piece(peer, path, 0, "a"))
		says(ack(0, 1))
		says(ack(0, 2), acks)
		d.fine(sent(peer, d.piece(peer, path, 1, "b"))) // 1 is not heard
		says(ack(0, 2), acks)
		says(ack(1, 2), acks)
		d.come(peer, d.ending(peer, path, 9))
		d.come(peer, d.asking(peer, path))
		says(ack(0, 1, 2, 4))
		says(ack(2, 4))
		says(ack(3, 4))
		says(ack(0, 1, 3, 4))
		says(ack(0, 4), acks)
		says(ack(0, 1, 2, 5), acks)
		says(ack(0, 1, 2, 4, 9, 10), acks)
		says(ack(2, 3, 4, 5), acks)
		says(ack(0, api.MaxNum+1), acks)
		d.shows(sent(side, on(1-path, ack(0, 1))), acks)
		d.shows(sent(peer, on(path, ack(0, 1))), acks)
		d.shows(lost(side, on(path, ack(4, 5))), acks)
		x := d.asking(peer, path)
		d.fine(sent(peer, x), event(api.EventDropped, peer, x), event(api.EventDoubled, peer, x), event(api.EventSpoilt, peer, x))
		says(ack(4, 5), acks)
		d.fine(raw(api.EventHeard, peer, path, "x"), raw(api.EventHeard, peer, 1-path, string(coded(x))))
		says(ack(4, 5), acks)
		d.come(peer, on(path, prio()))
		says(ack(5, 6), acks)
	})
}

// RuleAck of a single path: one range from 0 on, of DATA and FIN.
func TestRuleAckSingle(t *testing.T) {
	each(t, []int{api.Single}, func(d *desk, side, path int) {
		peer := 1 - side
		says := func(f api.Frame, broken ...int) {
			t.Helper()
			d.shows(sent(side, on(path, f)), broken...)
		}
		d.come(peer, d.asking(peer, path))
		says(ack(0, 1), acks)
		d.come(peer, d.piece(peer, path, 0, "a"))
		says(ack(0, 1))
		says(ack(0, 2), acks)
		d.come(peer, d.piece(peer, path, 1, "b"))
		d.come(peer, d.ending(peer, path, 2))
		says(ack(0, 3))
		says(ack(0, 1))
		says(ack(1, 3), acks)
		says(ack(1, 2), acks)
		says(ack(0, 1, 2, 3), acks)
		says(ack(0, 4), acks)
		d.shows(sent(side, on(1-path, ack(0, 1))), acks)
		d.shows(lost(peer, on(path, ack(0, 1))), acks)
	})
}

// RuleDack: no less than was told before, no more than has come, and room for RecvBuf.
func TestRuleDack(t *testing.T) {
	each(t, all(), func(d *desk, side, path int) {
		peer := 1 - side
		says := func(from int, off, to uint64, broken ...int) {
			t.Helper()
			d.shows(sent(side, on(from, dack(d.off(peer, off), d.off(peer, to)))), broken...)
		}
		says(path, 1, 12, dacks) // nothing has come
		says(path, 1, 12, dacks)
		says(path, 0, 13, dacks)
		d.come(peer, d.piece(peer, 1, 4, "efgh"))
		says(path, 1, 13, dacks)
		d.come(peer, d.piece(peer, 1, 0, "abcd"))
		says(1-path, 8, 13)
		says(path, 8, 20)
		says(path, 8, 20)
		says(path, 8, 21, dacks)
		says(path, 8, 20, dacks) // the edge was 21
		says(1-path, 7, 19, dacks)
		says(path, 9, 21, dacks)
		says(path, 8, 21, dacks) // 9 was told
		d.come(peer, d.piece(peer, 1, 8, "i"))
		says(path, 9, 21)
		says(1-path, 9, 20, dacks)
		says(1-path, 8, 21, dacks)
		x := d.piece(peer, 1, 9, "j")
		d.fine(sent(peer, x), event(api.EventSpoilt, peer, x), event(api.EventDoubled, peer, x), event(api.EventDropped, peer, x))
		d.fine(raw(api.EventHeard, peer, 0, string(coded(x))))
		says(path, 10, 22, dacks)
		d.shows(lost(side, on(path, dack(api.MaxOff+1, api.MaxEdge))), dacks)
		d.shows(lost(side, on(path, dack(0, 0))), dacks)
	})
}

// RuleDack behind an end: one more, if it was heard where all that comes ahead of it was.
func TestRuleDackEnd(t *testing.T) {
	each(t, all(), func(d *desk, side, path int) {
		peer := 1 - side
		says := func(off, to uint64, broken ...int) {
			t.Helper()
			d.shows(sent(side, on(path, dack(d.off(peer, off), d.off(peer, to)))), broken...)
		}
		d.fine(sent(peer, d.ending(peer, path, 2)))
		d.come(peer, d.piece(peer, path, 0, "a"))
		says(1, 12)
		d.come(peer, d.ending(peer, 1-path, 2))
		says(1, 13)
		says(2, 14, dacks) // a byte is missing ahead of the end
		d.come(peer, d.piece(peer, path, 1, "b"))
		says(3, 15)
		says(3, 16, dacks)
		says(4, 16, dacks)
	})
	each(t, all(), func(d *desk, side, path int) { // of a stream without bytes
		peer, shut := 1-side, d.ending(1-side, path, 0)
		d.fine(sent(peer, shut))
		d.shows(sent(side, on(path, dack(d.off(peer, 1), d.off(peer, 1)))), dacks)
		d.fine(heard(peer, shut), sent(side, dack(d.off(peer, 1), d.off(peer, 13))))
		d.shows(sent(side, on(path, dack(d.off(peer, 2), d.off(peer, 13)))), dacks)
	})
}

// RuleToken: RST and JOIN bear the peer's token.
func TestRuleToken(t *testing.T) {
	each(t, many(), func(d *desk, side, path int) {
		own, peer := d.c.Keys[side], d.c.Keys[1-side]
		asks := []int{}
		if side == api.SideB {
			asks = append(asks, role)
		}
		d.shows(sent(side, on(path, join(peer))), asks...)
		d.shows(sent(side, on(path, join(own))), append([]int{token}, asks...)...)
		d.shows(lost(side, on(path, join(1))), append([]int{token}, asks...)...)
		d.shows(sent(side, on(0, rst(own))), token)
		d.shows(sent(side, on(1, rst(peer))))
	})
	each(t, all(), func(d *desk, side, path int) {
		d.shows(sent(side, on(path, rst(d.c.Keys[1-side]))))
		d.shows(lost(side, on(path, rst(d.c.Keys[side]))), token, after)
	})
}

// RuleRole: A asks and proves, B answers; over a single path nobody does.
func TestRuleRole(t *testing.T) {
	each(t, all(), func(d *desk, side, path int) {
		ours, theirs := []api.Frame{join(d.c.Keys[1-side]), prove()}, []api.Frame{joined()}
		if side == api.SideB {
			ours, theirs = theirs, ours
		}
		for range 2 {
			for _, f := range append(ours, prio(), gone(0), gone(1)) {
				if d.c.Sched == api.Single {
					d.shows(sent(side, on(path, f)), role)
				} else {
					d.shows(sent(side, on(path, f)))
				}
			}
			for _, f := range theirs {
				d.shows(lost(side, on(path, f)), role)
			}
		}
		d.fine(sent(side, d.asking(side, path)))
		d.fine(sent(side, on(path, dack(0, 0))))
	})
}

// RuleAfter: behind an RST that was heard nothing is sent any more.
func TestRuleAfterHeard(t *testing.T) {
	each(t, all(), func(d *desk, side, path int) {
		own := d.c.Keys[side]
		peer := 1 - side
		x, wrong := on(path, rst(own)), on(1-path, rst(d.c.Keys[peer]))
		d.shows(sent(peer, wrong), token)
		d.fine(heard(peer, wrong), sent(side, d.asking(side, path))) // not its own token
		d.shows(sent(peer, x), after)
		d.fine(event(api.EventDropped, peer, x))
		d.fine(raw(api.EventHeard, peer, 1-path, string(coded(x))))
		d.fine(sent(side, d.asking(side, path)))
		d.fine(heard(peer, x))
		d.fine(heard(peer, wrong))
		for range 2 {
			d.shows(sent(side, d.asking(side, path)), after)
			d.shows(lost(side, on(1-path, rst(d.c.Keys[peer]))), after)
			d.shows(sent(side, on(path, dack(d.off(peer, 0), d.off(peer, 9)))), after)
			d.shows(raw(api.EventSent, side, path, "x"), form)
		}
	})
}

// RuleAfter: behind an RST that was sent there come but RSTs, each right behind, on a path above.
func TestRuleAfterSent(t *testing.T) {
	for _, sched := range all() {
		for side := range 2 {
			c := config(sched)
			c.Paths = 8
			fresh := func() (*desk, func(path int) api.Event) {
				d := open(t, c)
				return d, func(path int) api.Event { return sent(side, on(path, rst(c.Keys[1-side]))) }
			}
			d, ends := fresh()
			d.fine(ends(0), ends(1), ends(3), ends(7))
			d.shows(ends(7), after)
			d.shows(ends(2), after)
			d.fine(ends(3)) // above the one right ahead, and right behind it
			d.shows(sent(side, d.asking(side, 5)), after)
			d.shows(ends(6), after) // not right behind
			d.fine(ends(7))
			d.closes()

			for _, between := range []api.Event{
				sent(1-side, on(4, d.asking(1-side, 0))), sent(side, on(4, dack(c.Base[1-side], c.Base[1-side]))), heard(side, on(0, rst(c.Keys[1-side]))),
				event(api.EventDropped, side, on(0, rst(c.Keys[1-side]))), raw(api.EventHeard, 1-side, 0, "x"), raw(api.EventSent, side, 0, "x"),
			} {
				d, ends := fresh()
				d.fine(ends(0))
				switch {
				case string(between.Bytes) == "x" && between.What == api.EventSent:
					d.shows(between, form)
				case between.What == api.EventSent && between.Side == side:
					d.shows(between, after)
				default:
					d.shows(between)
				}
				d.shows(ends(1), after)
				d.fine(ends(2))
				d.shows(lost(side, on(2, rst(c.Keys[1-side]))), after)
				d.closes()
			}

			d, ends = fresh()
			d.fine(lost(side, on(5, rst(c.Keys[1-side]))), ends(6))
			d.fine(sent(1-side, d.asking(1-side, 0)))
			d.shows(sent(side, on(7, prio())), afterPrio(sched)...)
			d.closes()
		}
	}
}

// afterPrio is what a PRIO behind an RST breaks.
func afterPrio(sched int) []int {
	if sched == api.Single {
		return []int{role, after}
	}
	return []int{after}
}

// P26.2: the rules that one event breaks come by rising number, each once.
func TestManyRules(t *testing.T) {
	each(t, many(), func(d *desk, side, path int) {
		peer := 1 - side
		base := d.off(side, 0)
		d.fine(sent(side, on(path, data(0, base+10, "kl"))), sent(side, on(path, fin(1, base+12))), sent(side, on(path, rst(d.c.Keys[peer]))))
		d.shows(sent(side, on(path, data(7, base+9, "xyzuv"))), number, edge, says, cut, end, after)
		d.shows(sent(side, on(path, fin(0, base))), number, end, after)
		d.shows(sent(side, on(path, ack(0, 1))), acks, after)
		d.shows(sent(side, on(path, dack(api.MaxOff, 0))), dacks, after)
		d.shows(sent(side, on(path, rst(5))), token, after)
		if side == api.SideB {
			d.shows(sent(side, on(path, join(5))), token, role, after)
		}
		x := on(0, probe(0))
		if path == 0 {
			x.Num = 4
		}
		d.fine(sent(1-side, on(0, probe(0))))
		d.shows(sent(side, x), after)
	})
}
