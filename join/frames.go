package join

import (
	"braid/api"
	"braid/sums"
)

// How many bytes of a proof a frame bears.
const (
	joinedMac = 8
	proveMac  = 20
)

// join is A's question.
func (h *Half) join() api.Frame {
	return api.Frame{
		Kind:   api.KindJoin,
		Path:   h.path,
		Token:  sums.Token(h.peer),
		Nonce:  h.nonce(),
		Backup: h.backup,
	}
}

// joined is B's answer to the JOIN that it has heard last.
func (h *Half) joined() api.Frame {
	return api.Frame{
		Kind:  api.KindJoined,
		Path:  h.path,
		Nonce: h.nonce(),
		Mac:   beginning(h.ownProof(h.heard), joinedMac),
	}
}

// prove is what A answers to a JOINED with this nonce.
func (h *Half) prove(nonce uint32) api.Frame {
	return api.Frame{
		Kind: api.KindProve,
		Path: h.path,
		Mac:  beginning(h.ownProof(nonce), proveMac),
	}
}

// nonce is the own key's on this path.
func (h *Half) nonce() uint32 {
	s := sums.Of(eight(h.own), []byte{byte(h.path)})
	return uint32(s[0])<<24 | uint32(s[1])<<16 | uint32(s[2])<<8 | uint32(s[3])
}

// ownProof is what this side tells a peer with this nonce.
func (h *Half) ownProof(nonce uint32) api.Sum {
	return proof(h.own, h.peer, h.nonce(), nonce)
}

// peerProof is what a peer with this nonce tells: keys and nonces stand as that side sees them.
func (h *Half) peerProof(nonce uint32) api.Sum {
	return proof(h.peer, h.own, nonce, h.nonce())
}

func proof(k1, k2 uint64, n1, n2 uint32) api.Sum {
	return sums.Mac(append(eight(k1), eight(k2)...), four(n1), four(n2))
}

// beginning is the first n bytes of a digest, in memory of their own: spare room would tell the others.
func beginning(s api.Sum, n int) []byte {
	b := make([]byte, n)
	copy(b, s[:])
	return b
}

// begins tells whether mac is just the first n bytes of a digest: laid over it, these leave it as it was.
func begins(s api.Sum, mac []byte, n int) bool {
	laid := s
	copy(laid[:], mac)
	return len(mac) == n && laid == s
}

// eight lays a key down, the highest byte first.
func eight(k uint64) []byte { return append(four(uint32(k>>32)), four(uint32(k))...) }

// four lays a nonce down likewise.
func four(n uint32) []byte {
	return []byte{byte(n >> 24), byte(n >> 16), byte(n >> 8), byte(n)}
}
