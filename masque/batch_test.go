package masque_test

import (
	"math"
	"math/rand"
	"reflect"
	"slices"
	"testing"

	"masque/api"
	"masque/masque"
)

func mustBatch(t *testing.T, b *masque.Box, packets ...api.Packet) []api.Result {
	t.Helper()
	r, e := b.Batch(packets...)
	if e != api.OK || len(r) != len(packets) {
		t.Fatalf("P8: Batch of %d packets gives %d results, %d", len(packets), len(r), e)
	}
	return r
}

// wantBatch holds each answer at its packet's place.
func wantBatch(t *testing.T, b *masque.Box, packets []api.Packet, want []api.Result) {
	t.Helper()
	for i, r := range mustBatch(t, b, packets...) {
		if r != want[i] {
			t.Errorf("P8: in a batch packet %d, %+v\nis answered %+v,\nwant %+v", i, packets[i], r, want[i])
		}
	}
}

// wantNoBatch holds P1, too: beside an error there are no results.
func wantNoBatch(t *testing.T, b *masque.Box, want api.Errno, packets ...api.Packet) {
	t.Helper()
	if r, e := b.Batch(packets...); len(r) != 0 || e != want {
		t.Errorf("P8: Batch of %d packets gives %v, %d, want none and %d", len(packets), r, e, want)
	}
}

// oneByOne says P8 by Pass.
func oneByOne(t *testing.T, b *masque.Box, packets []api.Packet) []api.Result {
	t.Helper()
	list := []api.Result{}
	for _, p := range packets {
		q, v, e := b.Pass(p)
		if e != api.OK {
			t.Fatalf("P4: Pass(%+v): %d", p, e)
		}
		list = append(list, api.Result{Packet: q, Verdict: v})
	}
	return list
}

func wantSameTables(t *testing.T, a, b *masque.Box, tags ...int) {
	t.Helper()
	for _, tag := range tags {
		l, e := a.Table(tag)
		if l2, e2 := b.Table(tag); !reflect.DeepEqual(l, l2) || e != e2 {
			t.Fatalf("P8: Table(%d) = %+v, %d\nand %+v, %d", tag, l, e, l2, e2)
		}
	}
}

func leftFrom(p api.Packet, src api.End) api.Result {
	p.Src = src
	return api.Result{Packet: p}
}

func cameTo(p api.Packet, dst api.End) api.Result {
	p.Dst = dst
	return api.Result{Packet: p}
}

func no(v api.Verdict) api.Result { return api.Result{Verdict: v} }

// pair gives a box of the tenants 5 and 6, with mappings of each Proto, some of
// them streams of which one Fin is known: it is not told, but must be kept.
func pair(t *testing.T) *masque.Box {
	t.Helper()
	b := mustNew(t, plain(), api.Tenant{Tag: 6, Outer: 2000, Low: 20, High: 21})
	for _, tag := range []int{5, 6} {
		face := at(1000*(tag-4), 20)
		for _, proto := range protos {
			leaves(t, b, of(tag, start(proto, at(1, 70), at(9, 53))), face)
		}
		enters(t, b, of(tag, in(stream, at(9, 53), face, "f")), at(1, 70))
	}
	tick(t, b, 7)
	return b
}

// probes would be answered otherwise, and leave other tables, by a pair in
// which a mapping, a peer or a Fin is another.
func probes() []api.Packet {
	var list []api.Packet
	for _, tag := range []int{5, 6} {
		face := at(1000*(tag-4), 20)
		for _, proto := range protos {
			list = append(list,
				of(tag, in(proto, at(8, 53), face, "")),
				of(tag, in(proto, at(9, 53), face, "")),
				of(tag, start(proto, at(2, 70), at(9, 53))),
				of(tag, start(proto, at(3, 70), at(9, 53))))
		}
		list = append(list, of(tag, out(stream, at(1, 70), at(9, 53), "f")))
	}
	return list
}

// wantUntouched holds that a pair is as it was made, by what it answers, too.
func wantUntouched(t *testing.T, b *masque.Box) {
	t.Helper()
	twin := pair(t)
	wantSameTables(t, b, twin, 5, 6)
	wantBatch(t, b, probes(), oneByOne(t, twin, probes()))
	wantSameTables(t, b, twin, 5, 6)
}

// busy would change much in a pair, of both tenants.
func busy(n int) []api.Packet {
	some := []api.Packet{
		out(stream, at(1, 70), at(8, 53), "f"),
		of(6, out(stream, at(1, 70), at(8, 53), "r")),
		of(99, out(datagram, at(1, 70), at(8, 53), "")),
		out(datagram, at(2, 70), at(9, 53), ""),
		of(6, out(echo, at(1, 70), at(8, 53), "")),
		out(echo, at(2, 70), at(1000, 20), ""),
	}
	var list []api.Packet
	for i := range n {
		list = append(list, some[i%len(some)])
	}
	return list
}

func TestBatchCounts(t *testing.T) {
	for _, n := range []int{1, 2, 199, 200} {
		b, twin := pair(t), pair(t)
		wantBatch(t, b, busy(n), oneByOne(t, twin, busy(n)))
		wantSameTables(t, b, twin, 5, 6)
	}
	for _, n := range []int{201, 202, 400, 5000} {
		b := pair(t)
		wantNoBatch(t, b, api.ErrMany, busy(n)...)
		wantUntouched(t, b)
	}
	wantNoBatch(t, mustNew(t), api.ErrMany, busy(201)...)
	wantBatch(t, mustNew(t), busy(200), slices.Repeat([]api.Result{no(api.NoTenant)}, 200))
}

// wrong gives what is no packet, in each way in which it may be none.
func wrong() []api.Packet {
	quoted := out(datagram, at(1, 70), at(9, 53), "")
	quoted.Quote.Src.Port = 1
	marked := errorOut(stream, at(1, 0), at(9, 0), at(9, 53), at(1, 70))
	marked.Rst = true
	return []api.Packet{
		{},
		out(0, at(1, 70), at(9, 53), ""),
		out(4, at(1, 70), at(9, 53), ""),
		out(datagram, at(-1, 70), at(9, 53), ""),
		out(stream, at(1, 70), at(math.MaxInt, 53), "s"),
		in(echo, at(9, 65536), at(1000, 20), ""),
		in(stream, at(9, 53), at(1000, math.MinInt), "f"),
		out(echo, at(1, 70), at(9, 53), "s"),
		errorIn(datagram, at(9, 0), at(1000, 0), at(1000, 20), at(4294967296, 53)),
		quoted,
		marked,
		of(99, out(9, at(1, 70), at(9, 53), "")),
		of(math.MinInt, out(-1, at(1, 70), at(9, 53), "")),
	}
}

// One that is none is seen at every place, and ahead of passing any other.
func TestBatchWithOneThatIsNone(t *testing.T) {
	for _, bad := range wrong() {
		b := pair(t)
		wantNoBatch(t, b, api.ErrPacket, bad)
		for _, n := range []int{1, 6, 199} {
			for _, place := range []int{0, n / 2, n} {
				wantNoBatch(t, b, api.ErrPacket, slices.Insert(busy(n), place, bad)...)
			}
		}
		nobodys := of(99, out(datagram, at(1, 70), at(9, 53), ""))
		wantNoBatch(t, b, api.ErrPacket, nobodys, bad)
		wantNoBatch(t, b, api.ErrPacket, nobodys, bad, nobodys)
		wantNoBatch(t, b, api.ErrPacket, bad, bad)
		wantNoBatch(t, mustNew(t), api.ErrPacket, nobodys, bad)
		wantUntouched(t, b)
	}
}

func TestBatchTellsErrManyFirst(t *testing.T) {
	b := pair(t)
	for _, bad := range wrong() {
		wantNoBatch(t, b, api.ErrMany, slices.Repeat([]api.Packet{bad}, 201)...)
		wantNoBatch(t, b, api.ErrPacket, slices.Repeat([]api.Packet{bad}, 200)...)
		wantNoBatch(t, b, api.ErrMany, slices.Insert(busy(200), 0, bad)...)
		wantNoBatch(t, b, api.ErrMany, append(busy(200), bad)...)
		wantNoBatch(t, b, api.ErrPacket, append(busy(199), bad)...)
	}
	wantUntouched(t, b)
}

func TestBatchOfNone(t *testing.T) {
	for _, list := range [][]api.Packet{nil, {}, busy(3)[:0]} {
		b := pair(t)
		mustBatch(t, b, list...)
		wantUntouched(t, b)
		mustBatch(t, mustNew(t), list...)
	}
	mustBatch(t, pair(t))
}

// The document's section 'Examples', in one batch: each answer hangs on what
// stands ahead of it.
func TestBatchOfOneTenant(t *testing.T) {
	b := mustNew(t, plain())
	list := []api.Packet{
		out(datagram, at(1, 70), at(9, 53), ""),
		out(datagram, at(2, 70), at(9, 53), ""),
		out(datagram, at(3, 70), at(9, 53), ""),
		out(stream, at(3, 70), at(9, 53), ""),
		out(stream, at(3, 70), at(9, 53), "s"),
		in(datagram, at(9, 53), at(1000, 20), ""),
		in(datagram, at(9, 54), at(1000, 20), ""),
		in(datagram, at(8, 53), at(1000, 20), ""),
		in(datagram, at(9, 53), at(1000, 22), ""),
		out(datagram, at(1, 70), at(1000, 21), ""),
	}
	wantBatch(t, b, list, []api.Result{
		leftFrom(list[0], at(1000, 20)),
		leftFrom(list[1], at(1000, 21)),
		no(api.NoRoom),
		no(api.NotStarted),
		leftFrom(list[4], at(1000, 20)),
		cameTo(list[5], at(1, 70)),
		cameTo(list[6], at(1, 70)),
		no(api.Filtered),
		no(api.NoMapping),
		no(api.Filtered),
	})
	wantMappings(t, b, 5,
		api.Mapping{Proto: datagram, Inside: at(1, 70), Port: 20, Peers: []int{9, 1000}},
		api.Mapping{Proto: datagram, Inside: at(2, 70), Port: 21, Peers: []int{9}},
		api.Mapping{Proto: stream, Inside: at(3, 70), Port: 20, Peers: []int{9}, State: 1})
}

// Eight tenants take turns, each asked from 24 ends for 24 ports; between them
// stand tags that none has.
func TestBatchOfTenantsInTurns(t *testing.T) {
	tenants := many(8)
	for i := range tenants {
		tenants[i].Outer, tenants[i].Low, tenants[i].High = 1000+i, 100*i, 100*i+63
	}
	b := mustNew(t, tenants...)
	var list []api.Packet
	var want []api.Result
	for turn := range 24 {
		for i, x := range tenants {
			p := of(x.Tag, out(datagram, at(turn, i), at(50+turn, 53), ""))
			list = append(list, p)
			want = append(want, leftFrom(p, at(1000+i, 100*i+turn)))
		}
		if turn%3 == 0 {
			tag := []int{0, -1, 9, 4094, 4095, math.MinInt, math.MaxInt, 1000}[turn/3]
			list = append(list, of(tag, out(datagram, at(turn, 0), at(50, 53), "")))
			want = append(want, no(api.NoTenant))
		}
	}
	if len(list) != 200 {
		t.Fatalf("%d packets, want a whole batch", len(list))
	}
	wantBatch(t, b, list, want)
	for i, x := range tenants {
		var table []api.Mapping
		for turn := range 24 {
			table = append(table, api.Mapping{Proto: datagram, Inside: at(turn, i), Port: 100*i + turn, Peers: []int{50 + turn}})
		}
		wantMappings(t, b, x.Tag, table...)
	}
}

// A tenant's packets may all stand behind another's, and come back again.
func TestBatchOfTenantsInRuns(t *testing.T) {
	list := slices.Concat(
		slices.Repeat([]api.Packet{start(stream, at(1, 70), at(9, 53))}, 70),
		slices.Repeat([]api.Packet{of(6, in(stream, at(9, 53), at(2000, 20), "f"))}, 65),
		[]api.Packet{of(6, out(stream, at(1, 70), at(9, 53), "f")), of(6, out(stream, at(2, 70), at(9, 53), ""))},
		slices.Repeat([]api.Packet{in(datagram, at(9, 53), at(1000, 20), "")}, 63))
	b, twin := pair(t), pair(t)
	wantBatch(t, b, list, oneByOne(t, twin, list))
	wantSameTables(t, b, twin, 5, 6)
}

func chanceBatch(r *rand.Rand) []api.Packet {
	var list []api.Packet
	for range []int{r.Intn(4), r.Intn(40), r.Intn(201)}[r.Intn(3)] {
		list = append(list, chance(r))
	}
	return list
}

func TestBatchIsPassOneBehindTheOther(t *testing.T) {
	r := rand.New(rand.NewSource(4))
	seen := map[api.Verdict]int{}
	for range 100 {
		b, twin := mustNew(t, crowd()...), mustNew(t, crowd()...)
		for range 8 {
			list := chanceBatch(r)
			want := oneByOne(t, twin, list)
			wantBatch(t, b, list, want)
			wantSameTables(t, b, twin, 1, 2, 3, 4)
			for _, x := range want {
				seen[x.Verdict]++
			}
			n := chanceTicks(r)
			tick(t, b, n)
			tick(t, twin, n)
			p := chance(r) // the two ways may be mixed
			wantBatch(t, twin, []api.Packet{p}, oneByOne(t, b, []api.Packet{p}))
			wantSameTables(t, b, twin, 1, 2, 3, 4)
		}
	}
	for v := api.Passed; v <= api.Filtered; v++ {
		if seen[v] < 50 {
			t.Errorf("the verdict %d came %d times only: the chances are badly chosen", v, seen[v])
		}
	}
}
