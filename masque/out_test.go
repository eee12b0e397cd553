package masque_test

import (
	"testing"

	"masque/api"
)

func TestAnInnerEndKeepsItsPort(t *testing.T) {
	for _, proto := range protos {
		b := block(t, 20, 23)
		leaves(t, b, start(proto, at(1, 70), at(9, 53)), at(1000, 20))
		leaves(t, b, start(proto, at(1, 71), at(9, 53)), at(1000, 21)) // another port inside
		leaves(t, b, start(proto, at(2, 70), at(9, 53)), at(1000, 22)) // another address inside
		leaves(t, b, out(proto, at(1, 71), at(8, 99), ""), at(1000, 21))
		leaves(t, b, out(proto, at(1, 70), at(7, 0), ""), at(1000, 20))
		leaves(t, b, start(proto, at(2, 70), at(9, 54)), at(1000, 22))
	}
}

func TestNewMapping(t *testing.T) {
	for _, proto := range protos {
		b := block(t, 0, 0)
		leaves(t, b, start(proto, at(4294967295, 65535), at(0, 0)), at(1000, 0))
		state := 0
		if proto == stream {
			state = 1
		}
		wantMappings(t, b, 5, api.Mapping{Proto: proto, Inside: at(4294967295, 65535), Port: 0, Peers: []int{0}, State: state})
	}
}

func TestTheLowestOtherPort(t *testing.T) {
	for _, proto := range []int{datagram, echo} {
		b := block(t, 20, 23)
		for i := range 4 {
			leaves(t, b, out(proto, at(1, i), at(9, 53), ""), at(1000, 20+i))
			tick(t, b, 1)
		}
		stays(t, b, out(proto, at(1, 4), at(9, 53), ""), api.NoRoom)
		span := map[int]int{datagram: 100, echo: 20}[proto]
		tick(t, b, span-10)
		leaves(t, b, out(proto, at(1, 0), at(9, 53), ""), at(1000, 20)) // keeps the outer two
		leaves(t, b, out(proto, at(1, 3), at(9, 53), ""), at(1000, 23))
		tick(t, b, 10)
		leaves(t, b, out(proto, at(1, 3), at(9, 53), ""), at(1000, 23))
		leaves(t, b, out(proto, at(1, 5), at(9, 53), ""), at(1000, 21))
		leaves(t, b, out(proto, at(1, 1), at(9, 53), ""), at(1000, 22)) // what it had is another's now
		stays(t, b, out(proto, at(1, 2), at(9, 53), ""), api.NoRoom)
	}
}

func TestAWholeBlock(t *testing.T) {
	for _, low := range []int{0, 65472} {
		for _, proto := range protos {
			b := block(t, low, low+63)
			for i := range 64 {
				leaves(t, b, start(proto, at(i, 70), at(9, 53)), at(1000, low+i))
			}
			stays(t, b, start(proto, at(64, 70), at(9, 53)), api.NoRoom)
			leaves(t, b, start(proto, at(63, 70), at(9, 53)), at(1000, low+63)) // who has a port needs none
			enters(t, b, in(proto, at(9, 53), at(1000, low+63), ""), at(63, 70))
		}
	}
}

func TestPortsAreCountedApartForEachProto(t *testing.T) {
	b := block(t, 20, 20)
	for _, proto := range protos {
		leaves(t, b, start(proto, at(1, 70), at(9, 53)), at(1000, 20))
		stays(t, b, start(proto, at(2, 70), at(9, 53)), api.NoRoom)
	}
	b = block(t, 20, 20)
	for i, proto := range protos {
		leaves(t, b, start(proto, at(i, 70), at(i, 53)), at(1000, 20))
	}
	for i, proto := range protos {
		enters(t, b, in(proto, at(i, 53), at(1000, 20), ""), at(i, 70))
	}
}

func TestNotStarted(t *testing.T) {
	b := block(t, 20, 20)
	for _, marks := range []string{"", "f", "r", "fr"} {
		stays(t, b, out(stream, at(1, 70), at(9, 53), marks), api.NotStarted)
		stays(t, b, out(stream, at(1, 70), at(1000, 20), marks), api.NotStarted)
	}
	wantMappings(t, b, 5)
	leaves(t, b, out(stream, at(1, 70), at(9, 53), "s"), at(1000, 20))
	leaves(t, b, out(stream, at(1, 70), at(9, 53), ""), at(1000, 20))
	stays(t, b, out(stream, at(2, 70), at(9, 53), ""), api.NotStarted) // ahead of NoRoom
	stays(t, b, out(stream, at(2, 70), at(9, 53), "s"), api.NoRoom)
	stays(t, b, out(stream, at(2, 70), at(1000, 20), "s"), api.NoRoom) // what has no mapping does not turn round
	wantMappings(t, b, 5, api.Mapping{Proto: stream, Inside: at(1, 70), Port: 20, Peers: []int{9}, State: 1})
	for _, proto := range []int{datagram, echo} {
		leaves(t, b, out(proto, at(2, 70), at(9, 53), ""), at(1000, 20))
	}
}

// A packet that finds no room changes nothing, not even the Idle of others.
func TestNoRoomChangesNothing(t *testing.T) {
	b := block(t, 20, 20)
	leaves(t, b, out(datagram, at(1, 70), at(9, 53), ""), at(1000, 20))
	tick(t, b, 9)
	stays(t, b, out(datagram, at(2, 70), at(8, 53), ""), api.NoRoom)
	wantMappings(t, b, 5, api.Mapping{Proto: datagram, Inside: at(1, 70), Port: 20, Peers: []int{9}, Idle: 9})
}

func TestPeers(t *testing.T) {
	for _, proto := range protos {
		b := block(t, 20, 21)
		for _, c := range []struct {
			to   int
			want []int
		}{
			{1, []int{1}},
			{1, []int{1}},
			{2, []int{1, 2}},
			{1, []int{2, 1}},
			{3, []int{2, 1, 3}},
			{0, []int{2, 1, 3, 0}},
			{2, []int{1, 3, 0, 2}}, // the first of a full list moves, and none goes
			{0, []int{1, 3, 2, 0}},
			{0, []int{1, 3, 2, 0}},
			{4294967295, []int{3, 2, 0, 4294967295}},
			{1, []int{2, 0, 4294967295, 1}},
			{1000000, []int{0, 4294967295, 1, 1000000}},
		} {
			leaves(t, b, start(proto, at(7, 70), at(c.to, c.to%9)), at(1000, 20))
			l, _ := b.Table(5)
			state := 0
			if proto == stream {
				state = 1
			}
			wantMappings(t, b, 5, api.Mapping{Proto: proto, Inside: at(7, 70), Port: 20, Peers: c.want, State: state})
			if t.Failed() {
				t.Fatalf("P5: peers behind %d: %v", c.to, l)
			}
		}
		stays(t, b, in(proto, at(2, 0), at(1000, 20), ""), api.Filtered)
		enters(t, b, in(proto, at(0, 0), at(1000, 20), ""), at(7, 70))
	}
}

// Peers are a mapping's own, not the tenant's.
func TestPeersAreOfOneMapping(t *testing.T) {
	b := block(t, 20, 21)
	leaves(t, b, out(datagram, at(1, 70), at(9, 53), ""), at(1000, 20))
	leaves(t, b, out(datagram, at(2, 70), at(8, 53), ""), at(1000, 21))
	leaves(t, b, out(echo, at(1, 70), at(7, 53), ""), at(1000, 20))
	wantMappings(t, b, 5,
		api.Mapping{Proto: datagram, Inside: at(1, 70), Port: 20, Peers: []int{9}},
		api.Mapping{Proto: datagram, Inside: at(2, 70), Port: 21, Peers: []int{8}},
		api.Mapping{Proto: echo, Inside: at(1, 70), Port: 20, Peers: []int{7}})
	stays(t, b, in(datagram, at(8, 53), at(1000, 20), ""), api.Filtered)
	stays(t, b, in(datagram, at(9, 53), at(1000, 21), ""), api.Filtered)
	stays(t, b, in(datagram, at(7, 53), at(1000, 20), ""), api.Filtered)
}

func TestOutSetsIdleToNought(t *testing.T) {
	for _, proto := range protos {
		b := block(t, 20, 21)
		leaves(t, b, start(proto, at(1, 70), at(9, 53)), at(1000, 20))
		leaves(t, b, start(proto, at(2, 70), at(9, 53)), at(1000, 21))
		tick(t, b, 12)
		leaves(t, b, out(proto, at(1, 70), at(9, 53), ""), at(1000, 20))
		l, _ := b.Table(5)
		if len(l) != 2 || l[0].Idle != 0 || l[1].Idle != 12 {
			t.Errorf("P5: Proto %d: %+v, want Idle 0 and 12", proto, l)
		}
	}
}

func TestTurnsRound(t *testing.T) {
	for _, proto := range protos {
		b := block(t, 20, 21)
		state, open := 0, 0
		if proto == stream {
			state, open = 1, 2
		}
		leaves(t, b, start(proto, at(1, 70), at(9, 53)), at(1000, 20))
		tick(t, b, 5)

		stays(t, b, start(proto, at(2, 70), at(1000, 22)), api.NoMapping) // it makes its mapping all the same
		wantMappings(t, b, 5,
			api.Mapping{Proto: proto, Inside: at(1, 70), Port: 20, Peers: []int{9}, State: state, Idle: 5},
			api.Mapping{Proto: proto, Inside: at(2, 70), Port: 21, Peers: []int{1000}, State: state})
		tick(t, b, 5)

		stays(t, b, start(proto, at(2, 70), at(1000, 20)), api.Filtered)
		wantMappings(t, b, 5,
			api.Mapping{Proto: proto, Inside: at(1, 70), Port: 20, Peers: []int{9}, State: state, Idle: 10},
			api.Mapping{Proto: proto, Inside: at(2, 70), Port: 21, Peers: []int{1000}, State: state})
		tick(t, b, 1)

		turns(t, b, start(proto, at(1, 70), at(1000, 21)), at(1000, 20), at(2, 70))
		idle := 1
		if proto == stream {
			idle = 0 // in, a Stream is renewed
		}
		wantMappings(t, b, 5,
			api.Mapping{Proto: proto, Inside: at(1, 70), Port: 20, Peers: []int{9, 1000}, State: state},
			api.Mapping{Proto: proto, Inside: at(2, 70), Port: 21, Peers: []int{1000}, State: open, Idle: idle})

		turns(t, b, out(proto, at(2, 70), at(1000, 20), ""), at(1000, 21), at(1, 70))
		stays(t, b, in(proto, at(8, 53), at(1000, 20), ""), api.Filtered)
		enters(t, b, in(proto, at(1000, 1), at(1000, 20), ""), at(1, 70)) // by its address Outer is a peer as any other
	}
}

// The mapping to which a packet turns round may be its own.
func TestTurnsRoundToItself(t *testing.T) {
	b := block(t, 20, 21)
	turns(t, b, out(datagram, at(1, 70), at(1000, 20), ""), at(1000, 20), at(1, 70))
	wantMappings(t, b, 5, api.Mapping{Proto: datagram, Inside: at(1, 70), Port: 20, Peers: []int{1000}})

	b = block(t, 20, 21)
	turns(t, b, out(stream, at(1, 70), at(1000, 20), "s"), at(1000, 20), at(1, 70))
	m := api.Mapping{Proto: stream, Inside: at(1, 70), Port: 20, Peers: []int{1000}, State: 2}
	wantMappings(t, b, 5, m)
	turns(t, b, out(stream, at(1, 70), at(1000, 20), "f"), at(1000, 20), at(1, 70)) // out and in it is both Fins
	m.State = 3
	wantMappings(t, b, 5, m)
	turns(t, b, out(stream, at(1, 70), at(1000, 20), "s"), at(1000, 20), at(1, 70))
	m.State = 2
	wantMappings(t, b, 5, m)
}

// What turns round but does not pass has still used its mapping: its marks too.
func TestTurnedRoundTakesItsMarks(t *testing.T) {
	for _, to := range []int{20, 21, 22} {
		b := block(t, 20, 21)
		leaves(t, b, out(stream, at(1, 70), at(9, 53), "s"), at(1000, 20))
		leaves(t, b, out(stream, at(2, 70), at(9, 53), "s"), at(1000, 21))
		b.Pass(out(stream, at(1, 70), at(1000, to), "r"))
		l, _ := b.Table(5)
		if len(l) != 2 || l[0].State != 3 || l[1].State != 1 {
			t.Errorf("P5: Rst to 1000:%d: %+v, want the states Closing, Opening", to, l)
		}
	}
	b := block(t, 20, 21)
	leaves(t, b, out(stream, at(1, 70), at(9, 53), "s"), at(1000, 20))
	stays(t, b, out(stream, at(1, 70), at(1000, 21), "f"), api.NoMapping)
	enters(t, b, in(stream, at(9, 53), at(1000, 20), "f"), at(1, 70))
	if l, _ := b.Table(5); l[0].State != 3 {
		t.Errorf("P5: a Fin that turned round was forgotten: %+v", l)
	}
}

// Only a tenant's own Outer turns a packet round.
func TestOthersOuterDoesNotTurn(t *testing.T) {
	b := mustNew(t, plain(), api.Tenant{Tag: 6, Outer: 2000, Low: 20, High: 21})
	leaves(t, b, of(6, out(datagram, at(1, 70), at(1000, 20), "")), at(2000, 20))
	leaves(t, b, out(datagram, at(2, 70), at(2000, 20), ""), at(1000, 20))
	wantMappings(t, b, 5, api.Mapping{Proto: datagram, Inside: at(2, 70), Port: 20, Peers: []int{2000}})
	wantMappings(t, b, 6, api.Mapping{Proto: datagram, Inside: at(1, 70), Port: 20, Peers: []int{1000}})
}
