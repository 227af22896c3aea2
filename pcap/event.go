package pcap

import (
	"bytes"

	"braid/api"
)

// How the data of a packet of our kind begins: the mark, What, Side, Path (a byte each), and the Clock.
const (
	mark      = 0x62
	clockAt   = 4
	clockSize = 8
	ownSize   = clockAt + clockSize
)

// bounded tells whether an event may be, whatever bytes it has.
func bounded(e api.Event) bool {
	return e.What >= 1 && e.What < api.NumEvents &&
		(e.Side == api.SideA || e.Side == api.SideB) &&
		e.Path >= 0 && e.Path < api.MaxPaths
}

// moment is a clock as a packet tells it. A clock may tell more than Sec has room for.
func moment(clock uint64, nano bool) (sec, part uint32) {
	each := second(nano) / 1000
	return uint32(clock / 1000), uint32(clock%1000) * each
}

// packetOf is the packet of an event.
func packetOf(e api.Event) api.Packet {
	data := make([]byte, 0, ownSize+len(e.Bytes))
	data = append(data, mark, byte(e.What), byte(e.Side), byte(e.Path))
	data = highFirst{}.lay(data, e.Clock, clockSize)
	data = append(data, e.Bytes...)
	p := api.Packet{Len: uint32(len(data)), Data: data}
	p.Sec, p.Part = moment(e.Clock, false)
	return p
}

// eventOf is the event that a packet tells, if it is of our kind.
func eventOf(p api.Packet, nano bool) (api.Event, bool) {
	if uint64(p.Len) != uint64(len(p.Data)) || len(p.Data) < ownSize || p.Data[0] != mark {
		return api.Event{}, false
	}
	e := api.Event{What: int(p.Data[1]), Side: int(p.Data[2]), Path: int(p.Data[3])}
	e.Clock = highFirst{}.number(p.Data[clockAt:ownSize])
	if sec, part := moment(e.Clock, nano); !bounded(e) || p.Sec != sec || p.Part != part {
		return api.Event{}, false
	}
	e.Bytes = bytes.Clone(p.Data[ownSize:])
	return e, true
}
