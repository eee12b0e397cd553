package masque_test

import (
	"testing"

	"masque/api"
)

func TestInNoMapping(t *testing.T) {
	for _, proto := range protos {
		b := block(t, 20, 22)
		leaves(t, b, start(proto, at(1, 70), at(9, 53)), at(1000, 20))
		tick(t, b, 4)
		for _, dst := range []api.End{at(1001, 20), at(999, 20), at(1, 70), at(0, 20), at(1000, 19), at(1000, 21), at(1000, 23), at(1000, 70), at(1000, 0), at(1000, 65535)} {
			stays(t, b, in(proto, at(9, 53), dst, ""), api.NoMapping)
			stays(t, b, in(proto, at(8, 53), dst, ""), api.NoMapping) // ahead of Filtered
		}
		for _, other := range protos {
			if other != proto {
				stays(t, b, in(other, at(9, 53), at(1000, 20), ""), api.NoMapping)
			}
		}
		l, _ := b.Table(5)
		if len(l) != 1 || l[0].Idle != 4 {
			t.Errorf("P6: what finds no mapping changed one: %+v", l)
		}
	}
}

// A Stream that comes in is not asked for Syn, nor does one start anything.
func TestInMakesNoMapping(t *testing.T) {
	b := block(t, 20, 22)
	stays(t, b, in(stream, at(9, 53), at(1000, 20), "s"), api.NoMapping)
	stays(t, b, in(datagram, at(9, 53), at(1000, 20), ""), api.NoMapping)
	wantMappings(t, b, 5)
}

func TestInFilteredByAddress(t *testing.T) {
	for _, proto := range protos {
		b := block(t, 20, 22)
		leaves(t, b, start(proto, at(1, 70), at(9, 53)), at(1000, 20))
		tick(t, b, 4)
		for _, src := range []api.End{at(8, 53), at(10, 53), at(0, 9), at(53, 9), at(1, 70), at(1000, 20)} {
			stays(t, b, in(proto, src, at(1000, 20), ""), api.Filtered)
		}
		if proto == stream {
			stays(t, b, in(stream, at(8, 53), at(1000, 20), "r"), api.Filtered)
			stays(t, b, in(stream, at(8, 53), at(1000, 20), "f"), api.Filtered)
		}
		state := 0
		if proto == stream {
			state = 1
		}
		wantMappings(t, b, 5, api.Mapping{Proto: proto, Inside: at(1, 70), Port: 20, Peers: []int{9}, State: state, Idle: 4})
		for _, port := range []int{53, 54, 0, 65535} {
			enters(t, b, in(proto, at(9, port), at(1000, 20), ""), at(1, 70))
		}
	}
}

// Each peer may answer, not only the last one; and to answer does not move it.
func TestInFromAnyPeer(t *testing.T) {
	for _, proto := range protos {
		b := block(t, 20, 22)
		for _, to := range []int{1, 2, 3, 4} {
			leaves(t, b, start(proto, at(7, 70), at(to, 53)), at(1000, 20))
		}
		for _, from := range []int{3, 1, 4, 2} {
			enters(t, b, in(proto, at(from, 53), at(1000, 20), ""), at(7, 70))
		}
		l, _ := b.Table(5)
		if len(l) != 1 || len(l[0].Peers) != 4 || l[0].Peers[0] != 1 || l[0].Peers[3] != 4 {
			t.Errorf("P6: what came in changed the peers: %+v", l)
		}
	}
}

func TestInSetsOnlyAStreamsIdle(t *testing.T) {
	for _, c := range []struct{ proto, state, idle int }{{datagram, 0, 7}, {stream, 2, 0}, {echo, 0, 7}} {
		b := block(t, 20, 22)
		leaves(t, b, start(c.proto, at(1, 70), at(9, 53)), at(1000, 20))
		tick(t, b, 7)
		enters(t, b, in(c.proto, at(9, 53), at(1000, 20), ""), at(1, 70))
		wantMappings(t, b, 5, api.Mapping{Proto: c.proto, Inside: at(1, 70), Port: 20, Peers: []int{9}, State: c.state, Idle: c.idle})
	}
	b := block(t, 20, 22)
	leaves(t, b, out(stream, at(1, 70), at(9, 53), "sr"), at(1000, 20))
	for range 20 { // at Closing, too, what comes in renews it
		tick(t, b, 9)
		enters(t, b, in(stream, at(9, 53), at(1000, 20), ""), at(1, 70))
	}
	wantMappings(t, b, 5, api.Mapping{Proto: stream, Inside: at(1, 70), Port: 20, Peers: []int{9}, State: 3})
}

// The Tag says whose a packet is, not the address to which it comes.
func TestInByTag(t *testing.T) {
	b := mustNew(t, plain(), api.Tenant{Tag: 6, Outer: 2000, Low: 20, High: 21})
	leaves(t, b, out(datagram, at(1, 70), at(9, 53), ""), at(1000, 20))
	leaves(t, b, of(6, out(datagram, at(2, 71), at(9, 53), "")), at(2000, 20))
	stays(t, b, in(datagram, at(9, 53), at(2000, 20), ""), api.NoMapping)
	stays(t, b, of(6, in(datagram, at(9, 53), at(1000, 20), "")), api.NoMapping)
	enters(t, b, in(datagram, at(9, 53), at(1000, 20), ""), at(1, 70))
	enters(t, b, of(6, in(datagram, at(9, 53), at(2000, 20), "")), at(2, 71))
}
