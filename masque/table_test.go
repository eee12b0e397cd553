package masque

import (
	"reflect"
	"testing"

	"masque/api"
)

// No call makes a mapping yet: these tests lay them into the box by hand.

func lay(b *Box, tag int, m api.Mapping) {
	b.tenants[tag].byPort[portKey{m.Proto, m.Port}] = &m
}

func boxOfTwo(t *testing.T) *Box {
	t.Helper()
	b, e := New(api.Tenant{Tag: 5, Outer: 1000, Low: 20, High: 83}, api.Tenant{Tag: 6, Outer: 2000, Low: 20, High: 83})
	if e != api.OK {
		t.Fatalf("P2: New = %d", e)
	}
	return b
}

func TestTableRisesByProtoThenPort(t *testing.T) {
	want := []api.Mapping{
		{Proto: api.Datagram, Inside: api.End{Addr: 9, Port: 1}, Port: 20, Peers: []int{4, 3}, Idle: 99},
		{Proto: api.Datagram, Inside: api.End{Addr: 1, Port: 70}, Port: 83, Peers: []int{9}},
		{Proto: api.Stream, Inside: api.End{Addr: 1, Port: 70}, Port: 20, Peers: []int{1, 2, 3, 4}, State: api.Closing, Idle: 9},
		{Proto: api.Stream, Inside: api.End{Addr: 2, Port: 70}, Port: 50, Peers: []int{9}, State: api.Opening, Idle: 1},
		{Proto: api.Echo, Inside: api.End{Addr: 1, Port: 70}, Port: 21, Peers: []int{0}, Idle: 19},
		{Proto: api.Echo, Inside: api.End{Addr: 0, Port: 0}, Port: 22, Peers: []int{9}},
	}
	b := boxOfTwo(t)
	for _, i := range []int{3, 5, 0, 4, 2, 1} {
		lay(b, 5, want[i])
	}
	for range 20 { // a map is gone through in another order each time
		if l, e := b.Table(5); e != api.OK || !reflect.DeepEqual(l, want) {
			t.Fatalf("P2: Table(5) = %v, %d, want %v", l, e, want)
		}
	}
	if l, e := b.Table(6); e != api.OK || len(l) != 0 {
		t.Errorf("P2: Table(6) = %v, %d: another tenant's mappings are none of its own", l, e)
	}
	if l, _ := boxOfTwo(t).Table(5); len(l) != 0 {
		t.Errorf("P1: another box's Table(5) = %v, want none", l)
	}
}

func TestTableIsNewMemory(t *testing.T) {
	b := boxOfTwo(t)
	kept := append(make([]int, 0, api.MaxPeers), 9, 8)
	lay(b, 5, api.Mapping{Proto: api.Datagram, Inside: api.End{Addr: 1, Port: 70}, Port: 20, Peers: kept})
	l, _ := b.Table(5)
	peers := l[0].Peers
	for i := range peers[:cap(peers)] {
		peers[:cap(peers)][i] = 77
	}
	l[0] = api.Mapping{}
	if !reflect.DeepEqual(kept[:cap(kept)], []int{9, 8, 0, 0}) {
		t.Errorf("P1: writing into an answer changed what is kept: %v", kept[:cap(kept)])
	}
	want := []api.Mapping{{Proto: api.Datagram, Inside: api.End{Addr: 1, Port: 70}, Port: 20, Peers: []int{9, 8}}}
	if again, _ := b.Table(5); !reflect.DeepEqual(again, want) {
		t.Errorf("P1: Table after writing into its answer = %v, want %v", again, want)
	}
}
