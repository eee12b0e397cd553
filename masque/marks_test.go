package masque_test

import (
	"strings"
	"testing"
)

// In a way each word is a packet: o (out) or i (in), and its marks s, f and r.
func TestMarks(t *testing.T) {
	for _, c := range []struct {
		state int
		ways  string
	}{
		{1, "os; os o; os os; os of; osf; osf of; os o o"},
		{2, "os i; os is; os i o; os i os; os i of; os if; os of i; osf i; os if if; os i of of; os of of i i"},
		{3, "os of if; os if of; osf if; os i of if; os i if of; os of i if; os if o of; os i of i o if"}, // both Fins
		{3, "osr; os or; os ir; os i or; os i ir; os isr; osfr; os ifr; os i ofr; os osr"},                // Rst
		{3, "os or o; os or i; os or is; os or if; os or of; os ir of; os of if o; os of if i; os of if is; os or i i o"},
		{1, "os or os; os ir os; os of if os; os if of os; os or os o; os or osf; os or os of; os or o i os"}, // a Syn opens anew
		{1, "os of or os; os if or osf; os of if osf; os if of osf; os if ofr osf"},                           // and no Fin is known
		{2, "os or os i; os or is os i; os of if os i if; os of if os i of; os if of os if; os if or osf i; os ofr os if; os ifr osf i"},
		{3, "os or osr; os or osfr; os of if os of if; os of if osf if; os or osf i if; os if of os i if of; os or os ir"},
		{2, "os i os i; os if os i; os i osf i"}, // a Syn at Open opens nothing anew
		{3, "os of os if; os if osf; os i of os if"},
	} {
		for way := range strings.SplitSeq(c.ways, "; ") {
			b := block(t, 20, 21)
			for word := range strings.FieldsSeq(way) {
				if word[0] == 'o' {
					leaves(t, b, out(stream, at(1, 70), at(9, 53), word[1:]), at(1000, 20))
				} else {
					enters(t, b, in(stream, at(9, 53), at(1000, 20), word[1:]), at(1, 70))
				}
			}
			if l, _ := b.Table(5); len(l) != 1 || l[0].State != c.state {
				t.Errorf("marks %q: %+v, want the state %d", way, l, c.state)
			}
		}
	}
}

// The marks stand on the packet that goes on, as on the one that came.
func TestMarksGoOn(t *testing.T) {
	b := block(t, 20, 21)
	for _, marks := range []string{"s", "", "f", "r", "sf", "sr", "fr", "sfr"} {
		leaves(t, b, out(stream, at(1, 70), at(9, 53), marks), at(1000, 20))
		enters(t, b, in(stream, at(9, 53), at(1000, 20), marks), at(1, 70))
	}
}

// The marks of one stream are none of another's.
func TestMarksAreOfOneMapping(t *testing.T) {
	b := block(t, 20, 21)
	leaves(t, b, out(stream, at(1, 70), at(9, 53), "s"), at(1000, 20))
	leaves(t, b, out(stream, at(2, 70), at(9, 53), "s"), at(1000, 21))
	leaves(t, b, out(stream, at(1, 70), at(9, 53), "f"), at(1000, 20))
	enters(t, b, in(stream, at(9, 53), at(1000, 21), "f"), at(2, 70))
	l, _ := b.Table(5)
	if len(l) != 2 || l[0].State != 1 || l[1].State != 2 {
		t.Errorf("marks: %+v, want the states Opening and Open", l)
	}
}

// A stream that closes is gone by the span of Closing, counted from its last packet.
func TestClosingShortensTheSpan(t *testing.T) {
	b := block(t, 20, 21)
	leaves(t, b, out(stream, at(1, 70), at(9, 53), "s"), at(1000, 20))
	enters(t, b, in(stream, at(9, 53), at(1000, 20), ""), at(1, 70))
	tick(t, b, 900)
	enters(t, b, in(stream, at(9, 53), at(1000, 20), "r"), at(1, 70))
	tick(t, b, 0)
	tick(t, b, 9)
	if l, _ := b.Table(5); len(l) != 1 || l[0].State != 3 || l[0].Idle != 9 {
		t.Errorf("P3: %+v, want Closing, Idle 9", l)
	}
	leaves(t, b, out(stream, at(1, 70), at(9, 53), "s"), at(1000, 20))
	tick(t, b, 29)
	if l, _ := b.Table(5); len(l) != 1 || l[0].State != 1 || l[0].Idle != 29 {
		t.Errorf("P3: %+v, want Opening, Idle 29", l)
	}
	tick(t, b, 1)
	wantMappings(t, b, 5)
}
