package masque

import (
	"sync"

	"masque/api"
)

// placed is a packet of a batch, with its place there: the tenants answer side
// by side, and each answer must find its way back.
type placed struct {
	place  int
	packet api.Packet
}

func checkBatch(packets []api.Packet) api.Errno {
	if len(packets) > api.MaxBatch {
		return api.ErrMany
	}
	for _, p := range packets {
		if !isPacket(p) {
			return api.ErrPacket
		}
	}
	return api.OK
}

// passAll needs no lock: a tenant's mappings are its one goroutine's, and no
// two packets have one place among the results.
func (b *Box) passAll(packets []api.Packet) []api.Result {
	results := make([]api.Result, len(packets))
	queues := map[int]chan placed{} // by Tag
	var ended sync.WaitGroup
	for i, p := range packets {
		t, ok := b.tenants[p.Tag]
		if !ok {
			results[i].Verdict = api.NoTenant
			continue
		}
		queue, ok := queues[p.Tag]
		if !ok {
			queue = make(chan placed)
			queues[p.Tag] = queue
			ended.Add(1)
			go t.passQueue(queue, results, &ended)
		}
		queue <- placed{i, p}
	}
	for _, queue := range queues {
		close(queue)
	}
	ended.Wait()
	return results
}

// passQueue passes packets in the order in which they are sent, till there are
// no more to come.
func (t *tenant) passQueue(queue <-chan placed, results []api.Result, ended *sync.WaitGroup) {
	defer ended.Done()
	for p := range queue {
		q, v := t.pass(p.packet)
		results[p.place] = api.Result{Packet: q, Verdict: v}
	}
}
