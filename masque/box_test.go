package masque_test

import (
	"math"
	"testing"

	"masque/api"
	"masque/masque"
)

// wantTable holds the table of a box without mappings: beside OK, and beside an error, it is empty.
func wantTable(t *testing.T, b *masque.Box, tag int, want api.Errno) {
	t.Helper()
	if l, e := b.Table(tag); len(l) != 0 || e != want {
		t.Errorf("P2: Table(%d) = %v, %d, want none and %d", tag, l, e, want)
	}
}

func TestTableOfEachTenantIsEmpty(t *testing.T) {
	b := mustNew(t, many(8)...)
	for tag := 1; tag <= 8; tag++ {
		wantTable(t, b, tag, api.OK)
	}
	wantTable(t, mustNew(t, api.Tenant{Tag: 4094, Outer: 4294967295, Low: 65472, High: 65535}), 4094, api.OK)
}

func TestTableOfNoTenant(t *testing.T) {
	b := mustNew(t, plain())
	for _, tag := range []int{4, 6, 0, -5, 1000, 20, 4094, 4095, math.MinInt, math.MaxInt} {
		wantTable(t, b, tag, api.ErrNone)
	}
	none := mustNew(t)
	for _, tag := range []int{0, 1, 5, 4094, math.MinInt, math.MaxInt} {
		wantTable(t, none, tag, api.ErrNone)
	}
}

func TestTickBounds(t *testing.T) {
	for _, b := range []*masque.Box{mustNew(t), mustNew(t, plain()), mustNew(t, many(8)...)} {
		for _, n := range []int{0, 1, 99999, 100000, 100000} {
			if e := b.Tick(n); e != api.OK {
				t.Errorf("P3: Tick(%d) = %d, want OK", n, e)
			}
		}
		for _, n := range []int{-1, 100001, math.MinInt, math.MaxInt} {
			if e := b.Tick(n); e != api.ErrTicks {
				t.Errorf("P3: Tick(%d) = %d, want ErrTicks", n, e)
			}
		}
	}
}

func TestTickKeepsTenants(t *testing.T) {
	b := mustNew(t, plain())
	for _, n := range []int{100000, -1, 0} {
		b.Tick(n)
		wantTable(t, b, 5, api.OK)
		wantTable(t, b, 6, api.ErrNone)
	}
}

func TestBoxesKnowNothingOfOneAnother(t *testing.T) {
	a := mustNew(t, plain())
	b := mustNew(t, api.Tenant{Tag: 6, Outer: 1000, Low: 20, High: 21}) // its Outer is taken in the other box alone
	c := mustNew(t, plain())                                            // so is its Tag
	wantTable(t, a, 5, api.OK)
	wantTable(t, a, 6, api.ErrNone)
	wantTable(t, b, 5, api.ErrNone)
	wantTable(t, b, 6, api.OK)
	wantTable(t, c, 5, api.OK)

	wantNew(t, api.ErrTwice, plain(), plain()) // a refused box leaves nothing behind
	wantTable(t, a, 5, api.OK)
	wantNew(t, api.OK, plain())
}
