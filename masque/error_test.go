package masque_test

import (
	"testing"

	"masque/api"
	"masque/masque"
)

// asked gives a box in which 1:70 has asked 9:53 and 8:53, by each Proto, and
// another inner end, by each Proto, someone else.
func asked(t *testing.T) *masque.Box {
	t.Helper()
	b := mustNew(t, api.Tenant{Tag: 5, Outer: 1000, Low: 20, High: 22}, api.Tenant{Tag: 6, Outer: 2000, Low: 20, High: 22})
	for _, proto := range protos {
		leaves(t, b, start(proto, at(1, 70), at(9, 53)), at(1000, 20))
		leaves(t, b, start(proto, at(1, 70), at(8, 53)), at(1000, 20))
		leaves(t, b, start(proto, at(2, 71), at(7, 53)), at(1000, 21))
	}
	tick(t, b, 6)
	return b
}

// unchanged holds that the mappings are as asked has left them.
func unchanged(t *testing.T, b *masque.Box) {
	t.Helper()
	var want []api.Mapping
	for _, proto := range protos {
		state := 0
		if proto == stream {
			state = 1
		}
		want = append(want,
			api.Mapping{Proto: proto, Inside: at(1, 70), Port: 20, Peers: []int{9, 8}, State: state, Idle: 6},
			api.Mapping{Proto: proto, Inside: at(2, 71), Port: 21, Peers: []int{7}, State: state, Idle: 6})
	}
	wantMappings(t, b, 5, want...)
	wantMappings(t, b, 6)
}

func TestErrorIn(t *testing.T) {
	b := asked(t)
	for _, proto := range protos {
		for _, src := range []api.End{at(9, 53), at(77, 0), at(1000, 20), at(0, 65535)} { // from anywhere on the way
			for _, port := range []int{0, 20, 21, 22, 65535} { // to any port
				for _, quoted := range []api.End{at(9, 53), at(9, 0), at(8, 65535)} { // of the peer the address counts
					passes(t, b, errorIn(proto, src, at(1000, port), at(1000, 20), quoted),
						errorIn(proto, src, at(1, port), at(1, 70), quoted))
				}
				passes(t, b, errorIn(proto, src, at(1000, port), at(1000, 21), at(7, 53)),
					errorIn(proto, src, at(2, port), at(2, 71), at(7, 53)))
			}
		}
	}
	unchanged(t, b)
}

func TestErrorInStays(t *testing.T) {
	b := asked(t)
	for _, proto := range protos {
		for _, dst := range []api.End{at(1001, 0), at(1, 70), at(2000, 20), at(0, 0)} {
			stays(t, b, errorIn(proto, at(9, 53), dst, at(1000, 20), at(9, 53)), api.NoMapping)
			stays(t, b, errorIn(proto, at(9, 53), dst, at(1000, 20), at(3, 53)), api.NoMapping) // ahead of Filtered
		}
		for _, quoted := range []api.End{at(1001, 20), at(1, 70), at(0, 20), at(2000, 20), at(1000, 19), at(1000, 22), at(1000, 70), at(1000, 0)} {
			stays(t, b, errorIn(proto, at(9, 53), at(1000, 20), quoted, at(9, 53)), api.NoMapping)
			stays(t, b, errorIn(proto, at(9, 53), at(1000, 20), quoted, at(3, 53)), api.NoMapping)
		}
		for _, quoted := range []api.End{at(7, 53), at(10, 53), at(0, 9), at(53, 9), at(1000, 20), at(1, 70)} {
			stays(t, b, errorIn(proto, at(9, 53), at(1000, 20), at(1000, 20), quoted), api.Filtered) // that its own Src is a peer is of no use
		}
		stays(t, b, errorIn(proto, at(7, 53), at(1000, 21), at(1000, 21), at(9, 53)), api.Filtered)
		p := errorIn(proto, at(9, 53), at(1000, 0), at(1000, 20), at(9, 53))
		stays(t, b, of(6, p), api.NoMapping)
		stays(t, b, of(7, p), api.NoTenant)
		p.Quote = api.Quote{} // an error may quote noughts
		stays(t, b, p, api.NoMapping)
	}
	unchanged(t, b)
}

func TestErrorOut(t *testing.T) {
	b := asked(t)
	for _, proto := range protos {
		for _, src := range []api.End{at(1, 70), at(1, 0), at(3, 5), at(1000, 20), at(0, 65535)} { // whoever inside tells it
			for _, dst := range []api.End{at(9, 53), at(9, 0), at(77, 1), at(1000, 20)} { // an error does not turn round
				for _, quoted := range []api.End{at(9, 53), at(9, 0), at(8, 65535)} {
					passes(t, b, errorOut(proto, src, dst, quoted, at(1, 70)),
						errorOut(proto, at(1000, src.Port), dst, quoted, at(1000, 20)))
				}
				passes(t, b, errorOut(proto, src, dst, at(7, 1), at(2, 71)),
					errorOut(proto, at(1000, src.Port), dst, at(7, 1), at(1000, 21)))
			}
		}
	}
	unchanged(t, b)
}

func TestErrorOutStays(t *testing.T) {
	b := asked(t)
	for _, proto := range protos {
		for _, quoted := range []api.End{at(1, 71), at(1, 0), at(2, 70), at(3, 70), at(70, 1), at(1000, 20), at(0, 0)} {
			stays(t, b, errorOut(proto, at(1, 70), at(9, 0), at(9, 53), quoted), api.NoMapping)
			stays(t, b, errorOut(proto, at(1, 70), at(9, 0), at(3, 53), quoted), api.NoMapping) // ahead of Filtered
		}
		for _, quoted := range []api.End{at(7, 53), at(10, 53), at(0, 9), at(53, 9), at(1000, 20), at(1, 70)} {
			stays(t, b, errorOut(proto, at(1, 0), at(9, 53), quoted, at(1, 70)), api.Filtered) // that its own Dst is a peer is of no use
		}
		stays(t, b, errorOut(proto, at(2, 0), at(7, 0), at(9, 53), at(2, 71)), api.Filtered)
		p := errorOut(proto, at(1, 0), at(9, 0), at(9, 53), at(1, 70))
		stays(t, b, of(6, p), api.NoMapping)
		stays(t, b, of(7, p), api.NoTenant)
		p.Quote = api.Quote{}
		stays(t, b, p, api.NoMapping) // and starts nothing
	}
	unchanged(t, b)
}

// An error is of one Proto, and finds the mappings of no other.
func TestErrorsByProto(t *testing.T) {
	for _, proto := range protos {
		b := block(t, 20, 21)
		leaves(t, b, start(proto, at(1, 70), at(9, 53)), at(1000, 20))
		for _, other := range protos {
			if other != proto {
				stays(t, b, errorIn(other, at(9, 53), at(1000, 20), at(1000, 20), at(9, 53)), api.NoMapping)
				stays(t, b, errorOut(other, at(1, 70), at(9, 53), at(9, 53), at(1, 70)), api.NoMapping)
			}
		}
	}
}

// Errors keep nothing open, and open no stream.
func TestErrorsKeepNothingOpen(t *testing.T) {
	for _, proto := range protos {
		b := block(t, 20, 21)
		leaves(t, b, start(proto, at(1, 70), at(9, 53)), at(1000, 20))
		span := map[int]int{datagram: 100, stream: 30, echo: 20}[proto]
		tick(t, b, span-1)
		passes(t, b, errorIn(proto, at(9, 53), at(1000, 20), at(1000, 20), at(9, 53)), errorIn(proto, at(9, 53), at(1, 20), at(1, 70), at(9, 53)))
		passes(t, b, errorOut(proto, at(1, 70), at(9, 53), at(9, 53), at(1, 70)), errorOut(proto, at(1000, 70), at(9, 53), at(9, 53), at(1000, 20)))
		tick(t, b, 1)
		wantMappings(t, b, 5)
	}
}
