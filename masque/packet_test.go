package masque_test

import (
	"math"
	"testing"

	"masque/api"
	"masque/masque"
)

var (
	badAddrs  = []int{-1, 4294967296, math.MinInt, math.MaxInt}
	badPorts  = []int{-1, 65536, math.MinInt, math.MaxInt}
	goodAddrs = []int{0, 1, 4294967294, 4294967295}
	goodPorts = []int{0, 1, 65534, 65535}
)

// places are the numbers of a packet that have bounds.
var places = []struct {
	quote     bool
	set       func(p *api.Packet, n int)
	good, bad []int
}{
	{false, func(p *api.Packet, n int) { p.Src.Addr = n }, goodAddrs, badAddrs},
	{false, func(p *api.Packet, n int) { p.Dst.Addr = n }, goodAddrs, badAddrs},
	{false, func(p *api.Packet, n int) { p.Src.Port = n }, goodPorts, badPorts},
	{false, func(p *api.Packet, n int) { p.Dst.Port = n }, goodPorts, badPorts},
	{true, func(p *api.Packet, n int) { p.Quote.Src.Addr = n }, goodAddrs, badAddrs},
	{true, func(p *api.Packet, n int) { p.Quote.Dst.Addr = n }, goodAddrs, badAddrs},
	{true, func(p *api.Packet, n int) { p.Quote.Src.Port = n }, goodPorts, badPorts},
	{true, func(p *api.Packet, n int) { p.Quote.Dst.Port = n }, goodPorts, badPorts},
}

// wantNone holds that such a packet is refused for a tenant and for none.
func wantNone(t *testing.T, b *masque.Box, p api.Packet) {
	t.Helper()
	wantRefused(t, b, p)
	wantRefused(t, b, of(99, p)) // ErrPacket is ahead of NoTenant
	wantMappings(t, b, 5)
}

func wantOne(t *testing.T, b *masque.Box, p api.Packet) {
	t.Helper()
	if _, _, e := b.Pass(p); e != api.OK {
		t.Errorf("P4: Pass(%+v): %d, want OK", p, e)
	}
	stays(t, b, of(99, p), api.NoTenant)
}

// kinds: out and in, plain and errors, of each Proto.
func kinds() []api.Packet {
	var list []api.Packet
	for _, proto := range protos {
		list = append(list,
			out(proto, at(1, 70), at(9, 53), ""),
			in(proto, at(9, 53), at(1000, 20), ""),
			errorOut(proto, at(1, 0), at(9, 0), at(9, 53), at(1, 70)),
			errorIn(proto, at(9, 0), at(1000, 0), at(1000, 20), at(9, 53)))
	}
	return list
}

func TestPacketNumbers(t *testing.T) {
	for _, kind := range kinds() {
		for _, c := range places {
			for _, n := range c.bad {
				p := kind
				c.set(&p, n)
				wantNone(t, block(t, 20, 21), p)
			}
			for _, n := range c.good {
				p := kind
				c.set(&p, n)
				if c.quote && !p.Error && n != 0 {
					wantNone(t, block(t, 20, 21), p) // a Quote on what is no error
					continue
				}
				wantOne(t, block(t, 20, 21), p)
			}
		}
	}
}

func TestPacketProto(t *testing.T) {
	for _, kind := range kinds() {
		for _, n := range []int{0, -1, 4, math.MinInt, math.MaxInt} {
			p := kind
			p.Proto = n
			wantNone(t, block(t, 20, 21), p)
		}
	}
	wantNone(t, block(t, 20, 21), api.Packet{})
	wantNone(t, block(t, 20, 21), api.Packet{Tag: 5})
	for _, proto := range protos {
		wantOne(t, block(t, 20, 21), api.Packet{Tag: 5, Proto: proto}) // noughts are addresses and ports
		wantOne(t, block(t, 20, 21), api.Packet{Tag: 5, Proto: proto, Out: true})
		wantOne(t, block(t, 20, 21), api.Packet{Tag: 5, Proto: proto, Error: true})
	}
}

func TestPacketMarks(t *testing.T) {
	for _, kind := range kinds() {
		for set := 1; set < 8; set++ {
			p := kind
			p.Syn, p.Fin, p.Rst = set&1 != 0, set&2 != 0, set&4 != 0
			if p.Proto == stream && !p.Error {
				wantOne(t, block(t, 20, 21), p)
			} else {
				wantNone(t, block(t, 20, 21), p)
			}
		}
	}
}

// A refused packet changes nothing in a box that has mappings, though it would,
// but for its fault.
func TestRefusedPacketChangesNothing(t *testing.T) {
	b := block(t, 20, 21)
	leaves(t, b, start(stream, at(1, 70), at(9, 53)), at(1000, 20))
	leaves(t, b, start(datagram, at(1, 70), at(9, 53)), at(1000, 20))
	tick(t, b, 7)
	for _, p := range []api.Packet{
		out(stream, at(1, 70), at(8, 65536), "r"),
		out(stream, at(1, 70), at(-1, 53), "f"),
		in(stream, at(9, -1), at(1000, 20), "r"),
		out(datagram, at(1, 70), at(8, 53), "f"),
		out(datagram, at(2, 70), at(4294967296, 53), ""),
	} {
		wantRefused(t, b, p)
	}
	quoted := out(datagram, at(1, 70), at(8, 53), "")
	quoted.Quote.Dst.Addr = 9
	wantRefused(t, b, quoted)
	wantMappings(t, b, 5,
		api.Mapping{Proto: datagram, Inside: at(1, 70), Port: 20, Peers: []int{9}, Idle: 7},
		api.Mapping{Proto: stream, Inside: at(1, 70), Port: 20, Peers: []int{9}, State: 1, Idle: 7})
}

func TestNoTenant(t *testing.T) {
	b := mustNew(t, plain(), api.Tenant{Tag: 6, Outer: 2000, Low: 20, High: 21})
	none := mustNew(t)
	for _, kind := range kinds() {
		for _, tag := range []int{0, -5, 4, 7, 20, 1000, 4095, math.MinInt, math.MaxInt} {
			stays(t, b, of(tag, kind), api.NoTenant)
		}
		stays(t, none, kind, api.NoTenant)
	}
	wantMappings(t, b, 5)
	wantMappings(t, b, 6)
}

// What Pass is handed stays as it was, though it goes on changed.
func TestPassDoesNotChangeWhatItIsHanded(t *testing.T) {
	b := block(t, 20, 21)
	b.Pass(out(datagram, at(1, 70), at(9, 53), ""))
	list := kinds()
	for i, before := range kinds() {
		b.Pass(list[i])
		if list[i] != before {
			t.Errorf("P1: Pass changed what it was handed: %+v, was %+v", list[i], before)
		}
	}
}
