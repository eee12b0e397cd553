package masque_test

import (
	"reflect"
	"strings"
	"testing"

	"masque/api"
	"masque/masque"
)

const (
	datagram = 1
	stream   = 2
	echo     = 3
)

var protos = []int{datagram, stream, echo}

func at(addr, port int) api.End { return api.End{Addr: addr, Port: port} }

// out gives a packet of tenant 5; marks are letters: s, f and r.
func out(proto int, src, dst api.End, marks string) api.Packet {
	return api.Packet{
		Tag: 5, Proto: proto, Out: true, Src: src, Dst: dst,
		Syn: strings.Contains(marks, "s"), Fin: strings.Contains(marks, "f"), Rst: strings.Contains(marks, "r"),
	}
}

func in(proto int, src, dst api.End, marks string) api.Packet {
	p := out(proto, src, dst, marks)
	p.Out = false
	return p
}

// start gives a packet that makes a mapping, if it has none: a Stream's has Syn.
func start(proto int, src, dst api.End) api.Packet {
	if proto == stream {
		return out(proto, src, dst, "s")
	}
	return out(proto, src, dst, "")
}

func errorIn(proto int, src, dst, quoteSrc, quoteDst api.End) api.Packet {
	return api.Packet{Tag: 5, Proto: proto, Src: src, Dst: dst, Error: true, Quote: api.Quote{Src: quoteSrc, Dst: quoteDst}}
}

func errorOut(proto int, src, dst, quoteSrc, quoteDst api.End) api.Packet {
	p := errorIn(proto, src, dst, quoteSrc, quoteDst)
	p.Out = true
	return p
}

func of(tag int, p api.Packet) api.Packet {
	p.Tag = tag
	return p
}

// block gives a box of the tenant with Tag 5 and Outer 1000, with these ports.
func block(t *testing.T, low, high int) *masque.Box {
	t.Helper()
	return mustNew(t, api.Tenant{Tag: 5, Outer: 1000, Low: low, High: high})
}

// passes holds the whole packet that goes on.
func passes(t *testing.T, b *masque.Box, p, want api.Packet) {
	t.Helper()
	if q, v, e := b.Pass(p); q != want || v != api.Passed || e != api.OK {
		t.Errorf("Pass(%+v)\n= %+v, %d, %d,\nwant %+v, Passed", p, q, v, e, want)
	}
}

// leaves holds that a packet goes on out, from this end, and else as it was.
func leaves(t *testing.T, b *masque.Box, p api.Packet, src api.End) {
	t.Helper()
	want := p
	want.Src = src
	passes(t, b, p, want)
}

// enters holds that a packet goes on in, to this end, and else as it was.
func enters(t *testing.T, b *masque.Box, p api.Packet, dst api.End) {
	t.Helper()
	want := p
	want.Dst = dst
	passes(t, b, p, want)
}

// turns holds that a packet that went out comes in, from this end, to that end.
func turns(t *testing.T, b *masque.Box, p api.Packet, src, dst api.End) {
	t.Helper()
	want := p
	want.Out, want.Src, want.Dst = false, src, dst
	passes(t, b, p, want)
}

// stays holds P4, too: beside any verdict but Passed the packet has noughts only.
func stays(t *testing.T, b *masque.Box, p api.Packet, want api.Verdict) {
	t.Helper()
	if q, v, e := b.Pass(p); q != (api.Packet{}) || v != want || e != api.OK {
		t.Errorf("Pass(%+v)\n= %+v, %d, %d,\nwant noughts, verdict %d", p, q, v, e, want)
	}
}

func wantMappings(t *testing.T, b *masque.Box, tag int, want ...api.Mapping) {
	t.Helper()
	l, e := b.Table(tag)
	if e != api.OK || len(l) != len(want) {
		t.Errorf("Table(%d) = %v, %d, want %v", tag, l, e, want)
		return
	}
	for i := range l {
		if !reflect.DeepEqual(l[i], want[i]) {
			t.Errorf("Table(%d)[%d] = %+v, want %+v", tag, i, l[i], want[i])
		}
	}
}

// wantRefused holds P1, too: beside an error the packet and the verdict are 0.
func wantRefused(t *testing.T, b *masque.Box, p api.Packet) {
	t.Helper()
	if q, v, e := b.Pass(p); q != (api.Packet{}) || v != 0 || e != api.ErrPacket {
		t.Errorf("P4: Pass(%+v)\n= %+v, %d, %d,\nwant noughts, 0, ErrPacket", p, q, v, e)
	}
}

func tick(t *testing.T, b *masque.Box, n int) {
	t.Helper()
	if e := b.Tick(n); e != api.OK {
		t.Fatalf("P3: Tick(%d) = %d, want OK", n, e)
	}
}
