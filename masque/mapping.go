package masque

import (
	"slices"

	"masque/api"
)

// mapping has, beside what a table tells, whether a Fin went out, and came in.
type mapping struct {
	api.Mapping
	finOut, finIn bool
}

// newMapping is without peers: the packet that makes it brings the first one.
func newMapping(proto int, inside api.End, port int) *mapping {
	m := &mapping{Mapping: api.Mapping{Proto: proto, Inside: inside, Port: port}}
	if proto == api.Stream {
		m.State = api.Opening
	}
	return m
}

// told gives the peers memory of their own: what is told must not lead back
// to what is kept.
func (m *mapping) told() api.Mapping {
	c := m.Mapping
	c.Peers = slices.Clone(m.Peers)
	return c
}

func (m *mapping) span() int {
	switch m.Proto {
	case api.Datagram:
		return api.SpanDatagram
	case api.Echo:
		return api.SpanEcho
	}
	switch m.State {
	case api.Opening:
		return api.SpanOpening
	case api.Open:
		return api.SpanOpen
	}
	return api.SpanClosing
}

func (m *mapping) hasPeer(addr int) bool {
	return slices.Contains(m.Peers, addr)
}

// usePeer puts an address at the end, and lets the first one go only if the
// address was none of the peers: one that moves makes room for itself.
func (m *mapping) usePeer(addr int) {
	if i := slices.Index(m.Peers, addr); i >= 0 {
		m.Peers = slices.Delete(m.Peers, i, i+1)
	}
	m.Peers = append(m.Peers, addr)
	if len(m.Peers) > api.MaxPeers {
		m.Peers = slices.Delete(m.Peers, 0, 1)
	}
}

// takeMarks takes the marks of a Stream's packet. A Syn opens a closed stream
// anew ahead of its other marks, so that a Rst beside it closes it again.
func (m *mapping) takeMarks(p api.Packet) {
	if p.Out && p.Syn && m.State == api.Closing {
		m.State, m.finOut, m.finIn = api.Opening, false, false
	} else if !p.Out && m.State == api.Opening {
		m.State = api.Open
	}
	if p.Fin && p.Out {
		m.finOut = true
		if m.finIn {
			goto closing
		}
	}
	if p.Fin && !p.Out {
		m.finIn = true
		if m.finOut {
			goto closing
		}
	}
	if p.Rst {
		goto closing
	}
	return
closing:
	m.State = api.Closing
}
