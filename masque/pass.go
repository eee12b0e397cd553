package masque

import "masque/api"

func (t *tenant) pass(p api.Packet) (api.Packet, api.Verdict) {
	switch {
	case p.Error && p.Out:
		return t.passErrorOut(p)
	case p.Error:
		return t.passErrorIn(p)
	case p.Out:
		return t.passOut(p)
	}
	return t.passIn(p)
}

// passOut uses the mapping ahead of asking whether the packet turns round: it
// stays used whatever becomes of the packet then.
func (t *tenant) passOut(p api.Packet) (api.Packet, api.Verdict) {
	m, v := t.mappingFor(p)
	if v != api.Passed {
		return api.Packet{}, v
	}
	m.usePeer(p.Dst.Addr)
	m.Idle = 0
	if p.Proto == api.Stream {
		m.takeMarks(p)
	}
	p.Src = t.face(m)
	if p.Dst.Addr == t.outer {
		p.Out = false
		return t.passIn(p)
	}
	return p, api.Passed
}

// mappingFor finds the mapping of a packet that goes out, or makes one.
func (t *tenant) mappingFor(p api.Packet) (*mapping, api.Verdict) {
	if m, ok := t.byInside[insideKey{p.Proto, p.Src}]; ok {
		return m, api.Passed
	}
	if p.Proto == api.Stream && !p.Syn {
		return nil, api.NotStarted
	}
	port, ok := t.freePort(p.Proto)
	if !ok {
		return nil, api.NoRoom
	}
	m := newMapping(p.Proto, p.Src, port)
	t.add(m)
	return m, api.Passed
}

// passIn renews a Stream's mapping alone: of the others what comes in keeps
// nothing open.
func (t *tenant) passIn(p api.Packet) (api.Packet, api.Verdict) {
	m, ok := t.behind(p.Proto, p.Dst)
	if !ok {
		return api.Packet{}, api.NoMapping
	}
	if !m.hasPeer(p.Src.Addr) {
		return api.Packet{}, api.Filtered
	}
	if p.Proto == api.Stream {
		m.takeMarks(p)
		m.Idle = 0
	}
	p.Dst = m.Inside
	return p, api.Passed
}

// passErrorIn asks the Quote for the mapping and for the peer: the error itself
// may come from anywhere on the way.
func (t *tenant) passErrorIn(p api.Packet) (api.Packet, api.Verdict) {
	m, ok := t.behind(p.Proto, p.Quote.Src)
	if !ok || p.Dst.Addr != t.outer {
		return api.Packet{}, api.NoMapping
	}
	if !m.hasPeer(p.Quote.Dst.Addr) {
		return api.Packet{}, api.Filtered
	}
	p.Dst.Addr = m.Inside.Addr
	p.Quote.Src = m.Inside
	return p, api.Passed
}

func (t *tenant) passErrorOut(p api.Packet) (api.Packet, api.Verdict) {
	m, ok := t.byInside[insideKey{p.Proto, p.Quote.Dst}]
	if !ok {
		return api.Packet{}, api.NoMapping
	}
	if !m.hasPeer(p.Quote.Src.Addr) {
		return api.Packet{}, api.Filtered
	}
	p.Src.Addr = t.outer
	p.Quote.Dst = t.face(m)
	return p, api.Passed
}

// face is the end that the world sees in the stead of a mapping's Inside.
func (t *tenant) face(m *mapping) api.End {
	return api.End{Addr: t.outer, Port: m.Port}
}

// behind finds the mapping whose face an end is.
func (t *tenant) behind(proto int, e api.End) (*mapping, bool) {
	if e.Addr != t.outer {
		return nil, false
	}
	m, ok := t.byPort[portKey{proto, e.Port}]
	return m, ok
}
