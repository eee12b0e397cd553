package masque_test

import (
	"testing"

	"masque/api"
	"masque/masque"
)

// exampled does what the document's section 'Examples' tells.
func exampled(t *testing.T) *masque.Box {
	t.Helper()
	b := mustNew(t, plain())
	leaves(t, b, out(datagram, at(1, 70), at(9, 53), ""), at(1000, 20))
	leaves(t, b, out(datagram, at(2, 70), at(9, 53), ""), at(1000, 21))
	stays(t, b, out(datagram, at(3, 70), at(9, 53), ""), api.NoRoom)
	stays(t, b, out(stream, at(3, 70), at(9, 53), ""), api.NotStarted)
	leaves(t, b, out(stream, at(3, 70), at(9, 53), "s"), at(1000, 20))
	enters(t, b, in(datagram, at(9, 53), at(1000, 20), ""), at(1, 70))
	enters(t, b, in(datagram, at(9, 54), at(1000, 20), ""), at(1, 70))
	stays(t, b, in(datagram, at(8, 53), at(1000, 20), ""), api.Filtered)
	stays(t, b, in(datagram, at(9, 53), at(1000, 22), ""), api.NoMapping)
	stays(t, b, out(datagram, at(1, 70), at(1000, 21), ""), api.Filtered)
	return b
}

func TestDocumentsExample(t *testing.T) {
	datagrams := []api.Mapping{
		{Proto: datagram, Inside: at(1, 70), Port: 20, Peers: []int{9, 1000}, Idle: 30},
		{Proto: datagram, Inside: at(2, 70), Port: 21, Peers: []int{9}, Idle: 30},
	}
	b := exampled(t)
	tick(t, b, 100)
	wantMappings(t, b, 5)
	b = exampled(t)
	tick(t, b, 30)
	wantMappings(t, b, 5, datagrams...)
}
