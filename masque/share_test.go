package masque_test

import (
	"runtime"
	"slices"
	"sync"
	"testing"
	"time"

	"masque/api"
	"masque/masque"
)

// P1: neither the list nor what stands behind it is changed, whatever Batch
// answers.
func TestBatchDoesNotChangeItsList(t *testing.T) {
	for _, room := range [][]api.Packet{
		busy(200),
		append(busy(50), api.Packet{}),
		slices.Repeat([]api.Packet{{Tag: 5}}, 3),
		busy(201),
		busy(300),
	} {
		before := slices.Clone(room)
		b := pair(t)
		b.Batch(room...)
		b.Batch(room[:2]...)
		b.Batch(room[:0]...)
		if !slices.Equal(room, before) {
			t.Errorf("P1: Batch of %d changed its list, or what stands behind it", len(room))
		}
	}
}

// P1: what stands behind the list is not looked at.
func TestBatchEndsWithItsList(t *testing.T) {
	room := append(busy(6), api.Packet{})
	b, twin := pair(t), pair(t)
	wantBatch(t, b, room[:4], oneByOne(t, twin, busy(4)))
	wantSameTables(t, b, twin, 5, 6)
	wantNoBatch(t, b, api.ErrPacket, room...)
	wantSameTables(t, b, twin, 5, 6)
}

// P1: writing over what was handed in changes no answer and nothing in the box.
func TestBatchDoesNotKeepItsList(t *testing.T) {
	b, twin := pair(t), pair(t)
	list := busy(200)
	want := oneByOne(t, twin, list)
	results := mustBatch(t, b, list...)
	for i := range list {
		list[i] = of(6, out(stream, at(77, 77), at(77, 77), "srf"))
	}
	if !slices.Equal(results, want) {
		t.Errorf("P1: writing over the packets changed the results")
	}
	wantSameTables(t, b, twin, 5, 6)
	wantBatch(t, b, probes(), oneByOne(t, twin, probes()))
	wantSameTables(t, b, twin, 5, 6)
}

// P1: writing over what came out, and into its spare room, changes no other
// answer, nothing that was handed in, and nothing in the box.
func TestResultsAreNewMemory(t *testing.T) {
	b, twin := pair(t), pair(t)
	list := busy(60)
	before := slices.Clone(list)
	oneByOne(t, twin, list)
	first := mustBatch(t, b, list...)
	want := oneByOne(t, twin, list)
	second := mustBatch(t, b, list...)
	room := append(first, no(api.Filtered))
	for _, r := range [][]api.Result{first[:cap(first)], room[:cap(room)]} {
		for i := range r {
			r[i] = api.Result{Packet: api.Packet{Tag: 77}, Verdict: 77}
		}
	}
	if !slices.Equal(second, want) {
		t.Errorf("P1: writing into one answer changed another")
	}
	if !slices.Equal(list, before) {
		t.Errorf("P1: writing into an answer changed what was handed in")
	}
	wantSameTables(t, b, twin, 5, 6)
	wantBatch(t, b, probes(), oneByOne(t, twin, probes()))
	wantSameTables(t, b, twin, 5, 6)
}

// P1: an answer stands still, whatever the box does behind it.
func TestResultsStandStill(t *testing.T) {
	b := pair(t)
	results := mustBatch(t, b, busy(60)...)
	before := slices.Clone(results)
	mustBatch(t, b, probes()...)
	wantNoBatch(t, b, api.ErrPacket, append(busy(60), api.Packet{})...)
	tick(t, b, 100000)
	mustBatch(t, b, busy(60)...)
	if !slices.Equal(results, before) {
		t.Errorf("P1: an answer changed behind its giving")
	}
}

// P1: two boxes with the same tenants know nothing of one another.
func TestBatchesOfTwoBoxes(t *testing.T) {
	a, b := pair(t), pair(t)
	mustBatch(t, a, busy(200)...)
	wantUntouched(t, b)
}

// P1: nor do they, if they work at the same time.
func TestBatchesOfBoxesSideBySide(t *testing.T) {
	want := oneByOne(t, pair(t), busy(200))
	boxes := make([]*masque.Box, 6)
	for i := range boxes {
		boxes[i] = pair(t)
	}
	results := make([][]api.Result, len(boxes))
	var ended sync.WaitGroup
	for i, b := range boxes {
		ended.Go(func() { results[i], _ = b.Batch(busy(200)...) })
	}
	ended.Wait()
	for _, r := range results {
		if !slices.Equal(r, want) {
			t.Errorf("P1: a box beside others at work answers otherwise")
		}
	}
}

// wantGoroutines gives those that have told their end time to be counted out.
func wantGoroutines(t *testing.T, most int) {
	t.Helper()
	for range 2000 {
		if runtime.NumGoroutine() <= most {
			return
		}
		time.Sleep(time.Millisecond)
	}
	t.Errorf("P1: %d goroutines, %d ahead of the calls", runtime.NumGoroutine(), most)
}

func TestBatchLeavesNoGoroutine(t *testing.T) {
	full := []api.Packet{}
	for i := range 200 {
		full = append(full, of(i%10, out(datagram, at(1, 70), at(9, 53), "")))
	}
	b, none := mustNew(t, many(8)...), mustNew(t)
	for _, c := range []struct {
		want api.Errno
		list []api.Packet
	}{
		{api.OK, nil},
		{api.OK, full[1:2]},
		{api.OK, full[9:10]},
		{api.OK, full},
		{api.ErrPacket, append([]api.Packet{{}}, full[:20]...)},
		{api.ErrPacket, append(full[:20:20], api.Packet{})},
		{api.ErrMany, append(full[:200:200], full[1])},
	} {
		before := runtime.NumGoroutine()
		for range 20 {
			for _, box := range []*masque.Box{b, none} {
				if _, e := box.Batch(c.list...); e != c.want {
					t.Fatalf("P8: Batch of %d packets: %d, want %d", len(c.list), e, c.want)
				}
			}
		}
		wantGoroutines(t, before)
	}
}
