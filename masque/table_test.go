package masque_test

import (
	"reflect"
	"slices"
	"testing"

	"masque/api"
	"masque/masque"
)

// clone copies a table with its peers.
func clone(list []api.Mapping) []api.Mapping {
	c := slices.Clone(list)
	for i := range c {
		c[i].Peers = slices.Clone(c[i].Peers)
	}
	return c
}

// peopled gives a box whose mappings came in another order than a table's, with
// gaps between their ports.
func peopled(t *testing.T) (*masque.Box, []api.Mapping) {
	t.Helper()
	b := mustNew(t, api.Tenant{Tag: 5, Outer: 1000, Low: 20, High: 83}, api.Tenant{Tag: 6, Outer: 2000, Low: 20, High: 83})
	for i := range 64 {
		leaves(t, b, out(echo, at(1, 100-i), at(9, 53), ""), at(1000, 20+i))
	}
	for i := range 3 {
		leaves(t, b, out(stream, at(9-i, 70), at(8, 53), "s"), at(1000, 20+i))
	}
	tick(t, b, 10)
	for _, i := range []int{63, 0, 40} {
		leaves(t, b, out(echo, at(1, 100-i), at(7, 53), ""), at(1000, 20+i))
	}
	leaves(t, b, out(stream, at(8, 70), at(8, 53), "r"), at(1000, 21))
	tick(t, b, 10)
	leaves(t, b, out(datagram, at(1, 70), at(3, 53), ""), at(1000, 20))
	leaves(t, b, out(datagram, at(0, 0), at(4, 53), ""), at(1000, 21))
	leaves(t, b, out(stream, at(7, 70), at(5, 53), ""), at(1000, 22))
	return b, []api.Mapping{
		{Proto: 1, Inside: at(1, 70), Port: 20, Peers: []int{3}},
		{Proto: 1, Inside: at(0, 0), Port: 21, Peers: []int{4}},
		{Proto: 2, Inside: at(9, 70), Port: 20, Peers: []int{8}, State: 1, Idle: 20},
		{Proto: 2, Inside: at(7, 70), Port: 22, Peers: []int{8, 5}, State: 1},
		{Proto: 3, Inside: at(1, 100), Port: 20, Peers: []int{9, 7}, Idle: 10},
		{Proto: 3, Inside: at(1, 60), Port: 60, Peers: []int{9, 7}, Idle: 10},
		{Proto: 3, Inside: at(1, 37), Port: 83, Peers: []int{9, 7}, Idle: 10},
	}
}

func TestTableRisesByProtoThenPort(t *testing.T) {
	b, want := peopled(t)
	for range 20 { // a map is gone through in another order each time
		wantMappings(t, b, 5, want...)
	}
	wantMappings(t, b, 6) // another tenant's mappings are none of its own
	wantTable(t, b, 7, api.ErrNone)
}

func TestTableIsNewMemory(t *testing.T) {
	b, want := peopled(t)
	l, _ := b.Table(5)
	for i := range l {
		room := l[i].Peers[:cap(l[i].Peers)]
		for j := range room {
			room[j] = 77
		}
	}
	room := l[:cap(l)]
	for i := range room {
		room[i] = api.Mapping{Port: 77}
	}
	wantMappings(t, b, 5, want...)
	leaves(t, b, out(stream, at(7, 70), at(6, 53), ""), at(1000, 22)) // nor has the spare room changed what comes
	want[3].Peers = []int{8, 5, 6}
	wantMappings(t, b, 5, want...)
}

// No two lists of one answer, and no two answers, share memory.
func TestTablesShareNothing(t *testing.T) {
	b, want := peopled(t)
	first, _ := b.Table(5)
	second, _ := b.Table(5)
	for i := range first {
		_ = append(first[i].Peers, 77, 78, 79)
		first[i].Peers[0] = 76
	}
	for i := range first {
		if rest := first[i].Peers[1:]; !slices.Equal(rest, want[i].Peers[1:]) {
			t.Errorf("P1: peers share memory within a table: %v", first)
		}
	}
	if !reflect.DeepEqual(second, want) {
		t.Errorf("P1: writing into one table changed another: %v", second)
	}
}

func TestTableStandsStill(t *testing.T) {
	b, _ := peopled(t)
	l, _ := b.Table(5)
	before := clone(l)
	for _, p := range []api.Packet{
		out(datagram, at(1, 70), at(99, 53), ""),
		out(datagram, at(1, 70), at(3, 53), ""),
		out(datagram, at(2, 70), at(3, 53), ""),
		in(stream, at(8, 53), at(1000, 20), "f"),
		out(stream, at(9, 70), at(8, 53), "r"),
		out(echo, at(1, 100), at(9, 53), ""),
	} {
		if _, v, e := b.Pass(p); v != api.Passed || e != api.OK {
			t.Fatalf("Pass(%+v): %d, %d", p, v, e)
		}
		tick(t, b, 1)
	}
	for i := range 9 {
		b.Pass(out(echo, at(1, 100), at(200+i, 53), ""))
	}
	tick(t, b, 100000)
	if !reflect.DeepEqual(l, before) {
		t.Errorf("P1: a table changed behind its giving: %v, was %v", l, before)
	}
}

// What is done in one box is seen in no other with the same tenants.
func TestBoxesShareNoMappings(t *testing.T) {
	a, want := peopled(t)
	b, _ := peopled(t)
	c := mustNew(t, api.Tenant{Tag: 5, Outer: 1000, Low: 20, High: 83})
	tick(t, b, 100000)
	b.Pass(out(datagram, at(4, 4), at(4, 4), ""))
	stays(t, c, in(datagram, at(3, 53), at(1000, 20), ""), api.NoMapping)
	leaves(t, c, out(datagram, at(6, 6), at(9, 9), ""), at(1000, 20))
	wantMappings(t, a, 5, want...)
	wantMappings(t, b, 5, api.Mapping{Proto: 1, Inside: at(4, 4), Port: 20, Peers: []int{4}})
	wantMappings(t, c, 5, api.Mapping{Proto: 1, Inside: at(6, 6), Port: 20, Peers: []int{9}})
}

// A box keeps nothing of the tenants' list with which it was made.
func TestTenantsAreNotKept(t *testing.T) {
	list := []api.Tenant{plain(), {Tag: 6, Outer: 2000, Low: 30, High: 30}}
	b := mustNew(t, list...)
	for i := range list {
		list[i] = api.Tenant{Tag: 7, Outer: 3000, Low: 50, High: 50}
	}
	leaves(t, b, out(datagram, at(1, 70), at(9, 53), ""), at(1000, 20))
	leaves(t, b, of(6, out(datagram, at(1, 70), at(9, 53), "")), at(2000, 30))
	stays(t, b, of(7, out(datagram, at(1, 70), at(9, 53), "")), api.NoTenant)
}
