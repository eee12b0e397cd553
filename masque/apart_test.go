package masque_test

import (
	"math/rand"
	"reflect"
	"testing"

	"masque/api"
	"masque/masque"
)

func ofTag(tag int, packets []api.Packet) []api.Packet {
	var own []api.Packet
	for _, p := range packets {
		if p.Tag == tag {
			own = append(own, p)
		}
	}
	return own
}

// resultsOf gives the results at the places of a tenant's packets.
func resultsOf(tag int, packets []api.Packet, results []api.Result) []api.Result {
	own := []api.Result{}
	for i, p := range packets {
		if p.Tag == tag {
			own = append(own, results[i])
		}
	}
	return own
}

// P9: beside others' packets a tenant's are answered as alone, in a box with the
// others, who are quiet there, and in a box without them.
func TestNoTenantSeesAnotherInABatch(t *testing.T) {
	r := rand.New(rand.NewSource(5))
	for range 40 {
		all := mustNew(t, crowd()...)
		alone := map[int][]*masque.Box{}
		for _, x := range crowd() {
			alone[x.Tag] = []*masque.Box{mustNew(t, crowd()...), mustNew(t, x)}
		}
		for range 8 {
			list, n := chanceBatch(r), chanceTicks(r)
			results := mustBatch(t, all, list...)
			tick(t, all, n)
			for tag, boxes := range alone {
				for _, b := range boxes {
					own := mustBatch(t, b, ofTag(tag, list)...)
					if beside := resultsOf(tag, list, results); !reflect.DeepEqual(beside, own) {
						t.Fatalf("P9: of %+v\ntenant %d is answered %+v,\nalone %+v", list, tag, beside, own)
					}
					tick(t, b, n)
					wantSameTables(t, all, b, tag)
				}
			}
		}
	}
}

// P9: what others use up, close or refuse is not missed.
func TestABusyTenantIsNotFelt(t *testing.T) {
	quiet := []api.Packet{
		of(6, in(datagram, at(9, 53), at(2000, 20), "")),
		of(6, start(datagram, at(2, 70), at(9, 53))),
		of(6, out(stream, at(1, 70), at(1000, 20), "")), // another's Outer is the world's
		of(6, start(datagram, at(3, 70), at(9, 53))),
	}
	loud := []api.Packet{
		start(datagram, at(2, 70), at(9, 53)),
		out(stream, at(1, 70), at(9, 53), "r"),
		in(datagram, at(2000, 20), at(1000, 20), ""),
		out(datagram, at(1, 70), at(2000, 20), ""),
		of(99, start(datagram, at(2, 70), at(9, 53))),
	}
	var list []api.Packet
	for _, p := range quiet {
		list = append(list, loud...)
		list = append(list, p)
	}
	beside, alone := pair(t), pair(t)
	wantBatch(t, alone, quiet, resultsOf(6, list, mustBatch(t, beside, list...)))
	wantSameTables(t, beside, alone, 6)
}

// P9: in one batch, too, the answer to what passes out finds back.
func TestAnswersFindBackInABatch(t *testing.T) {
	b := mustNew(t, plain(), api.Tenant{Tag: 6, Outer: 2000, Low: 30, High: 31})
	var list []api.Packet
	var want []api.Result
	for _, proto := range protos {
		for i, face := range []api.End{at(1000, 20), at(2000, 30)} {
			p := of(5+i, start(proto, at(1, 70+i), at(9, 53)))
			answer := of(5+i, in(proto, at(9, 53), face, ""))
			list = append(list, p, answer)
			want = append(want, leftFrom(p, face), cameTo(answer, at(1, 70+i)))
		}
	}
	wantBatch(t, b, list, want)
}
