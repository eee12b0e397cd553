package masque_test

import (
	"math/rand"
	"reflect"
	"slices"
	"testing"

	"masque/api"
	"masque/masque"
)

// model says P3 to P7 again, of one tenant, by going through a list, without
// any key: a box must answer as it does, at whatever comes in whatever order.
type model struct {
	tenant api.Tenant
	list   []*kept
}

type kept struct {
	api.Mapping
	sent, got bool // a Fin
}

func (o *model) tick(n int) {
	spans := [][]int{datagram: {100}, stream: {0, 30, 1000, 10}, echo: {20}}
	for _, m := range o.list {
		m.Idle += n
	}
	o.list = slices.DeleteFunc(o.list, func(m *kept) bool { return m.Idle >= spans[m.Proto][m.State] })
}

func (o *model) find(is func(m *kept) bool) *kept {
	for _, m := range o.list {
		if is(m) {
			return m
		}
	}
	return nil
}

func (o *model) make(p api.Packet) (*kept, api.Verdict) {
	m := &kept{Mapping: api.Mapping{Proto: p.Proto, Inside: p.Src}}
	if p.Proto == stream {
		if !p.Syn {
			return nil, api.NotStarted
		}
		m.State = 1
	}
	for m.Port = o.tenant.Low; m.Port <= o.tenant.High; m.Port++ {
		if o.find(func(x *kept) bool { return x.Proto == m.Proto && x.Port == m.Port }) == nil {
			o.list = append(o.list, m)
			return m, api.Passed
		}
	}
	return nil, api.NoRoom
}

func (m *kept) marks(p api.Packet) {
	if p.Proto != stream {
		return
	}
	if p.Out && p.Syn && m.State == 3 {
		m.State, m.sent, m.got = 1, false, false
	} else if !p.Out && m.State == 1 {
		m.State = 2
	}
	m.sent = m.sent || p.Fin && p.Out
	m.got = m.got || p.Fin && !p.Out
	if m.sent && m.got || p.Rst {
		m.State = 3
	}
}

func (o *model) pass(p api.Packet) (api.Packet, api.Verdict) {
	ends := p.Dst
	peer := p.Src.Addr
	if p.Error && !p.Out {
		ends, peer = p.Quote.Src, p.Quote.Dst.Addr
	}
	if p.Error && p.Out {
		ends, peer = p.Quote.Dst, p.Quote.Src.Addr
	}
	if p.Out && !p.Error {
		return o.out(p)
	}
	m := o.find(func(m *kept) bool {
		if p.Out {
			return m.Proto == p.Proto && m.Inside == ends
		}
		return m.Proto == p.Proto && ends.Addr == o.tenant.Outer && p.Dst.Addr == o.tenant.Outer && m.Port == ends.Port
	})
	if m == nil {
		return api.Packet{}, api.NoMapping
	}
	if !slices.Contains(m.Peers, peer) {
		return api.Packet{}, api.Filtered
	}
	switch {
	case !p.Error:
		p.Dst = m.Inside
		m.marks(p)
		if p.Proto == stream {
			m.Idle = 0
		}
	case p.Out:
		p.Src.Addr, p.Quote.Dst = o.tenant.Outer, at(o.tenant.Outer, m.Port)
	default:
		p.Dst.Addr, p.Quote.Src = m.Inside.Addr, m.Inside
	}
	return p, api.Passed
}

func (o *model) out(p api.Packet) (api.Packet, api.Verdict) {
	m := o.find(func(m *kept) bool { return m.Proto == p.Proto && m.Inside == p.Src })
	if m == nil {
		var v api.Verdict
		if m, v = o.make(p); m == nil {
			return api.Packet{}, v
		}
	}
	m.Peers = append(slices.DeleteFunc(m.Peers, func(a int) bool { return a == p.Dst.Addr }), p.Dst.Addr)
	m.Peers = m.Peers[max(0, len(m.Peers)-4):]
	m.Idle = 0
	m.marks(p)
	p.Src = at(o.tenant.Outer, m.Port)
	if p.Dst.Addr != o.tenant.Outer {
		return p, api.Passed
	}
	p.Out = false
	return o.pass(p)
}

func (o *model) table() []api.Mapping {
	list := []api.Mapping{}
	for _, m := range o.list {
		list = append(list, m.Mapping)
	}
	slices.SortFunc(list, func(a, b api.Mapping) int { return (a.Proto-b.Proto)<<20 + a.Port - b.Port })
	return list
}

// crowd: three tenants with small blocks, one of which has an inner address for
// its Outer, so that chance often meets what is there.
func crowd() []api.Tenant {
	return []api.Tenant{
		{Tag: 1, Outer: 100, Low: 20, High: 22},
		{Tag: 2, Outer: 1, Low: 0, High: 1},
		{Tag: 3, Outer: 102, Low: 65535, High: 65535},
	}
}

func chanceEnd(r *rand.Rand, outer, low, high int) api.End {
	if r.Intn(2) == 0 {
		return at(r.Intn(3), r.Intn(2))
	}
	if r.Intn(4) == 0 {
		return at(10+r.Intn(6), 53)
	}
	return at(outer, min(low+r.Intn(high-low+2), 65535))
}

// chance gives a packet of a tenant of the crowd, now and then of none.
func chance(r *rand.Rand) api.Packet {
	x := crowd()[r.Intn(3)]
	end := func() api.End { return chanceEnd(r, x.Outer, x.Low, x.High) }
	p := api.Packet{Tag: x.Tag, Proto: 1 + r.Intn(3), Out: r.Intn(2) == 0, Src: end(), Dst: end()}
	switch {
	case r.Intn(100) == 0:
		p.Tag = 4
	case r.Intn(4) == 0:
		p.Error, p.Quote = true, api.Quote{Src: end(), Dst: end()}
	case p.Proto == stream:
		p.Syn, p.Fin, p.Rst = r.Intn(2) == 0, r.Intn(4) == 0, r.Intn(8) == 0
	}
	return p
}

func chanceTicks(r *rand.Rand) int { return []int{0, 1, 2, 5, 9, 30}[r.Intn(6)] }

func TestBoxAnswersAsTheModel(t *testing.T) {
	r := rand.New(rand.NewSource(1))
	seen := map[api.Verdict]int{}
	for range 40 {
		b, models := mustNew(t, crowd()...), map[int]*model{}
		for _, x := range crowd() {
			models[x.Tag] = &model{tenant: x}
		}
		for range 400 {
			if r.Intn(6) == 0 {
				n := chanceTicks(r)
				tick(t, b, n)
				for _, o := range models {
					o.tick(n)
				}
			}
			p := chance(r)
			want, wantVerdict := api.Packet{}, api.NoTenant
			if o := models[p.Tag]; o != nil {
				want, wantVerdict = o.pass(p)
			}
			q, v, e := b.Pass(p)
			if q != want || v != wantVerdict || e != api.OK {
				t.Fatalf("Pass(%+v)\n= %+v, %d, %d,\nwant %+v, %d", p, q, v, e, want, wantVerdict)
			}
			seen[v]++
			for tag, o := range models {
				if l, _ := b.Table(tag); !reflect.DeepEqual(l, o.table()) {
					t.Fatalf("behind %+v\nTable(%d) = %+v,\nwant %+v", p, tag, l, o.table())
				}
			}
		}
	}
	for v := api.Passed; v <= api.Filtered; v++ {
		if seen[v] < 50 {
			t.Errorf("the verdict %d came %d times only: the chances are badly chosen", v, seen[v])
		}
	}
}

// P9: each tenant is answered as if it were alone.
func TestNoTenantSeesAnother(t *testing.T) {
	r := rand.New(rand.NewSource(2))
	all := mustNew(t, crowd()...)
	alone := map[int]*masque.Box{}
	for _, x := range crowd() {
		alone[x.Tag] = mustNew(t, x)
	}
	for range 5000 {
		if r.Intn(6) == 0 {
			n := chanceTicks(r)
			tick(t, all, n)
			for _, b := range alone {
				tick(t, b, n)
			}
		}
		p := chance(r)
		if alone[p.Tag] == nil {
			continue
		}
		q, v, _ := all.Pass(p)
		if q2, v2, _ := alone[p.Tag].Pass(p); q != q2 || v != v2 {
			t.Fatalf("P9: Pass(%+v)\n= %+v, %d,\nalone %+v, %d", p, q, v, q2, v2)
		}
		for tag, b := range alone {
			l, _ := all.Table(tag)
			if l2, _ := b.Table(tag); !reflect.DeepEqual(l, l2) {
				t.Fatalf("P9: Table(%d) = %+v,\nalone %+v", tag, l, l2)
			}
		}
	}
}

// P9: the answer to what has passed out finds back to whom it came from.
func TestAnswersFindBack(t *testing.T) {
	r := rand.New(rand.NewSource(3))
	b := mustNew(t, crowd()...)
	back := 0
	for range 5000 {
		if r.Intn(6) == 0 {
			tick(t, b, chanceTicks(r))
		}
		p := chance(r)
		q, v, _ := b.Pass(p)
		if v != api.Passed || !q.Out || q.Error {
			continue
		}
		answer := api.Packet{Tag: p.Tag, Proto: p.Proto, Src: q.Dst, Dst: q.Src}
		enters(t, b, answer, p.Src)
		about := api.Packet{Tag: p.Tag, Proto: p.Proto, Src: at(77, 0), Dst: q.Src, Error: true, Quote: api.Quote{Src: q.Src, Dst: q.Dst}}
		want := about
		want.Dst.Addr, want.Quote.Src = p.Src.Addr, p.Src
		passes(t, b, about, want)
		back++
	}
	if back < 200 {
		t.Errorf("%d answers only: the chances are badly chosen", back)
	}
}
