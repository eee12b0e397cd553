package masque_test

import (
	"math"
	"slices"
	"testing"

	"masque/api"
	"masque/masque"
)

// The numbers stand here as DOC.md says them, so that a changed limit is seen.

func plain() api.Tenant { return api.Tenant{Tag: 5, Outer: 1000, Low: 20, High: 21} }

// many gives n tenants that differ in Tag and Outer.
func many(n int) []api.Tenant {
	list := make([]api.Tenant, n)
	for i := range list {
		list[i] = api.Tenant{Tag: i + 1, Outer: i, Low: 20, High: 21}
	}
	return list
}

func mustNew(t *testing.T, tenants ...api.Tenant) *masque.Box {
	t.Helper()
	b, e := masque.New(tenants...)
	if b == nil || e != api.OK {
		t.Fatalf("P2: New(%v) = %v, %d, want a box and OK", tenants, b, e)
	}
	return b
}

// wantNew also holds P1: there is a box just if there is no error.
func wantNew(t *testing.T, want api.Errno, tenants ...api.Tenant) {
	t.Helper()
	b, e := masque.New(tenants...)
	if e != want {
		t.Errorf("P2: New(%v) = %d, want %d", tenants, e, want)
	}
	if (b != nil) != (want == api.OK) {
		t.Errorf("P1: New(%v) gives a box: %v, beside %d", tenants, b != nil, e)
	}
}

func TestNewCounts(t *testing.T) {
	wantNew(t, api.OK)
	wantNew(t, api.OK, many(1)...)
	wantNew(t, api.OK, many(8)...)
	wantNew(t, api.ErrMany, many(9)...)
	wantNew(t, api.ErrMany, many(1000)...)
}

func TestNewTenantBounds(t *testing.T) {
	for _, c := range []struct {
		name string
		set  func(x *api.Tenant, n int)
		good []int
		bad  []int
	}{
		{"Tag", func(x *api.Tenant, n int) { x.Tag = n },
			[]int{1, 2, 4093, 4094}, []int{0, -1, 4095, math.MinInt, math.MaxInt}},
		{"Outer", func(x *api.Tenant, n int) { x.Outer = n },
			[]int{0, 1, 4294967294, 4294967295}, []int{-1, 4294967296, math.MinInt, math.MaxInt}},
		{"Low to 21", func(x *api.Tenant, n int) { x.Low = n },
			[]int{0, 1, 20, 21}, []int{-1, 22, 65535, math.MinInt, math.MaxInt}},
		{"20 to High", func(x *api.Tenant, n int) { x.High = n },
			[]int{20, 21, 82, 83}, []int{19, 84, 0, -1, 65535, 65536, math.MinInt, math.MaxInt}},
		{"one port", func(x *api.Tenant, n int) { x.Low, x.High = n, n },
			[]int{0, 1, 65534, 65535}, []int{-1, 65536, math.MinInt, math.MaxInt}},
		{"64 ports from", func(x *api.Tenant, n int) { x.Low, x.High = n, n+63 },
			[]int{0, 1, 65471, 65472}, []int{-1, 65473, 65535}},
		{"65 ports from", func(x *api.Tenant, n int) { x.Low, x.High = n, n+64 },
			nil, []int{0, 1, 65470, 65471}},
	} {
		for _, n := range c.good {
			x := plain()
			c.set(&x, n)
			t.Run(c.name, func(t *testing.T) { wantNew(t, api.OK, x) })
		}
		for _, n := range c.bad {
			x := plain()
			c.set(&x, n)
			t.Run(c.name, func(t *testing.T) { wantNew(t, api.ErrTenant, x) })
		}
	}
}

// A block whose size wraps round to a small number is still none.
func TestNewBlockFarApart(t *testing.T) {
	for _, block := range [][2]int{
		{math.MinInt, math.MaxInt}, {math.MaxInt, math.MinInt},
		{0, math.MaxInt}, {math.MinInt, 0}, {math.MinInt, 65535}, {65535, math.MinInt}, {-1, math.MaxInt},
	} {
		x := plain()
		x.Low, x.High = block[0], block[1]
		wantNew(t, api.ErrTenant, x)
	}
}

func TestNewTwice(t *testing.T) {
	a, b := plain(), api.Tenant{Tag: 6, Outer: 2000, Low: 20, High: 21}
	sameTag, sameOuter := b, b
	sameTag.Tag, sameTag.Outer = a.Tag, 3000
	sameOuter.Tag, sameOuter.Outer = 7, a.Outer

	wantNew(t, api.OK, a, b) // one block of ports at two addresses is no double
	wantNew(t, api.ErrTwice, a, a)
	wantNew(t, api.ErrTwice, a, sameTag)
	wantNew(t, api.ErrTwice, a, sameOuter)
	wantNew(t, api.ErrTwice, a, b, sameTag) // not only the neighbour ahead counts
	wantNew(t, api.ErrTwice, a, b, sameOuter)

	last := many(8)
	last[7].Outer = last[0].Outer
	wantNew(t, api.ErrTwice, last...)

	crossed := b // a Tag that is another's Outer is no double
	crossed.Tag, crossed.Outer = 1000, a.Tag
	wantNew(t, api.OK, a, crossed)
}

func TestNewOrderOfErrors(t *testing.T) {
	a, none := plain(), plain()
	none.Low = 22
	zero := api.Tenant{}

	wantNew(t, api.ErrMany, make([]api.Tenant, 9)...)             // ahead of ErrTenant
	wantNew(t, api.ErrMany, slices.Repeat([]api.Tenant{a}, 9)...) // ahead of ErrTwice
	wantNew(t, api.ErrTenant, a, none)                            // of one tenant ErrTenant is ahead of ErrTwice
	wantNew(t, api.ErrTenant, zero, a, a)                         // of two the one that stands first tells
	wantNew(t, api.ErrTwice, a, a, zero)
	wantNew(t, api.ErrTenant, none, a)
}

func TestNewNeitherChangesNorKeepsItsList(t *testing.T) {
	room := many(8)
	before := slices.Clone(room)
	b := mustNew(t, room[:2]...)
	if !slices.Equal(room, before) {
		t.Errorf("P1: New changed its list, or what stands behind it: %v, was %v", room, before)
	}

	for i := range room {
		room[i] = api.Tenant{Tag: 77}
	}
	wantTable(t, b, 1, api.OK)
	wantTable(t, b, 2, api.OK)
	wantTable(t, b, 3, api.ErrNone)
	wantTable(t, b, 77, api.ErrNone)

	bad := append(many(2), api.Tenant{}, plain())
	before = slices.Clone(bad)
	wantNew(t, api.ErrTenant, bad...)
	if !slices.Equal(bad, before) {
		t.Errorf("P1: New changed a list that it refused: %v, was %v", bad, before)
	}
}
