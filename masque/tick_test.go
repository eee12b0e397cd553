package masque_test

import (
	"math"
	"testing"

	"masque/api"
	"masque/masque"
)

// lives are the ways to a mapping of 1:70 at port 20 of each span.
var lives = []struct {
	name  string
	proto int
	marks []string // out, or in behind "<"
	state int
	span  int
}{
	{"Datagram", datagram, []string{""}, 0, 100},
	{"Echo", echo, []string{""}, 0, 20},
	{"Opening", stream, []string{"s"}, 1, 30},
	{"Opening, a Fin out", stream, []string{"sf"}, 1, 30},
	{"Opening again", stream, []string{"sr", "s"}, 1, 30},
	{"Open", stream, []string{"s", "<"}, 2, 1000},
	{"Open, a Fin in", stream, []string{"s", "<f"}, 2, 1000},
	{"Closing by Rst", stream, []string{"s", "<", "r"}, 3, 10},
	{"Closing by two Fins", stream, []string{"s", "<f", "f"}, 3, 10},
}

func live(t *testing.T, proto int, marks []string) *masque.Box {
	t.Helper()
	b := block(t, 20, 21)
	for _, m := range marks {
		if m != "" && m[0] == '<' {
			enters(t, b, in(proto, at(9, 53), at(1000, 20), m), at(1, 70))
		} else {
			leaves(t, b, out(proto, at(1, 70), at(9, 53), m), at(1000, 20))
		}
	}
	return b
}

func TestSpans(t *testing.T) {
	for _, c := range lives {
		t.Run(c.name, func(t *testing.T) {
			m := api.Mapping{Proto: c.proto, Inside: at(1, 70), Port: 20, Peers: []int{9}, State: c.state}
			b := live(t, c.proto, c.marks)
			wantMappings(t, b, 5, m)
			tick(t, b, c.span-1)
			m.Idle = c.span - 1
			wantMappings(t, b, 5, m)
			tick(t, b, 0)
			wantMappings(t, b, 5, m)
			tick(t, b, 1)
			wantMappings(t, b, 5)

			for _, n := range []int{c.span, c.span + 1, 99999, 100000} {
				b = live(t, c.proto, c.marks)
				tick(t, b, n)
				wantMappings(t, b, 5)
			}

			b = live(t, c.proto, c.marks)
			for i := range c.span {
				m.Idle = i
				wantMappings(t, b, 5, m)
				tick(t, b, 1)
			}
			wantMappings(t, b, 5)
		})
	}
}

func TestRefusedTickAgesNothing(t *testing.T) {
	for _, c := range lives {
		b := live(t, c.proto, c.marks)
		tick(t, b, 3)
		for _, n := range []int{-1, -3, 100001, math.MinInt, math.MaxInt} {
			if e := b.Tick(n); e != api.ErrTicks {
				t.Errorf("P3: Tick(%d) = %d, want ErrTicks", n, e)
			}
			wantMappings(t, b, 5, api.Mapping{Proto: c.proto, Inside: at(1, 70), Port: 20, Peers: []int{9}, State: c.state, Idle: 3})
		}
	}
}

// A mapping that is gone is found neither by its port nor by its Inside, and
// what comes anew has nothing of it.
func TestGoneIsGone(t *testing.T) {
	for _, proto := range protos {
		b := block(t, 20, 20)
		leaves(t, b, start(proto, at(1, 70), at(8, 53)), at(1000, 20))
		tick(t, b, 100)
		stays(t, b, in(proto, at(8, 53), at(1000, 20), ""), api.NoMapping)
		stays(t, b, errorIn(proto, at(8, 53), at(1000, 0), at(1000, 20), at(8, 53)), api.NoMapping)
		stays(t, b, errorOut(proto, at(1, 0), at(8, 0), at(8, 53), at(1, 70)), api.NoMapping)
		leaves(t, b, start(proto, at(2, 70), at(9, 53)), at(1000, 20))
		stays(t, b, in(proto, at(8, 53), at(1000, 20), ""), api.Filtered)
		enters(t, b, in(proto, at(9, 53), at(1000, 20), ""), at(2, 70))
		stays(t, b, start(proto, at(1, 70), at(9, 53)), api.NoRoom)
	}
	b := block(t, 20, 21)
	leaves(t, b, out(stream, at(1, 70), at(8, 53), "sf"), at(1000, 20))
	tick(t, b, 30)
	stays(t, b, out(stream, at(1, 70), at(9, 53), ""), api.NotStarted)
	leaves(t, b, out(stream, at(1, 70), at(9, 53), "s"), at(1000, 20))
	enters(t, b, in(stream, at(9, 53), at(1000, 20), "f"), at(1, 70))
	wantMappings(t, b, 5, api.Mapping{Proto: stream, Inside: at(1, 70), Port: 20, Peers: []int{9}, State: 2})
}

// Each mapping goes by its own span and its own Idle, in every tenant.
func TestTickIsForAll(t *testing.T) {
	b := mustNew(t, many(8)...)
	for tag := 1; tag <= 8; tag++ {
		for _, proto := range protos {
			leaves(t, b, of(tag, start(proto, at(1, 70), at(99, 53))), at(tag-1, 20))
		}
	}
	tick(t, b, 15)
	leaves(t, b, of(2, out(echo, at(2, 70), at(99, 53), "")), at(1, 21))
	tick(t, b, 5)
	for tag := 1; tag <= 8; tag++ {
		want := []api.Mapping{
			{Proto: datagram, Inside: at(1, 70), Port: 20, Peers: []int{99}, Idle: 20},
			{Proto: stream, Inside: at(1, 70), Port: 20, Peers: []int{99}, State: 1, Idle: 20},
		}
		if tag == 2 {
			want = append(want, api.Mapping{Proto: echo, Inside: at(2, 70), Port: 21, Peers: []int{99}, Idle: 5})
		}
		wantMappings(t, b, tag, want...)
	}
	tick(t, b, 10)
	for tag := 1; tag <= 8; tag++ {
		want := []api.Mapping{{Proto: datagram, Inside: at(1, 70), Port: 20, Peers: []int{99}, Idle: 30}}
		if tag == 2 {
			want = append(want, api.Mapping{Proto: echo, Inside: at(2, 70), Port: 21, Peers: []int{99}, Idle: 15})
		}
		wantMappings(t, b, tag, want...)
	}
	tick(t, b, 70)
	for tag := 1; tag <= 8; tag++ {
		wantMappings(t, b, tag)
	}
}
