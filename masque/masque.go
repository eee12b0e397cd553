// Package masque: many behind one face, and none of them seen by another: see DOC.md.
package masque

import "masque/api"

// Box stands between some tenants and the world.
type Box struct {
	tenants map[int]*tenant // by Tag
}

// New makes a box (P2).
func New(tenants ...api.Tenant) (*Box, api.Errno) {
	if e := checkTenants(tenants); e != api.OK {
		return nil, e
	}
	b := &Box{tenants: make(map[int]*tenant, len(tenants))}
	for _, t := range tenants {
		b.tenants[t.Tag] = newTenant(t)
	}
	return b, api.OK
}

// Pass passes a packet (P4).
func (b *Box) Pass(p api.Packet) (api.Packet, api.Verdict, api.Errno) {
	if !isPacket(p) {
		return api.Packet{}, api.Passed, api.ErrPacket
	}
	t, ok := b.tenants[p.Tag]
	if !ok {
		return api.Packet{}, api.NoTenant, api.OK
	}
	q, v := t.pass(p)
	return q, v, api.OK
}

// Batch passes packets (P8).
func (b *Box) Batch(packets ...api.Packet) ([]api.Result, api.Errno) {
	if e := checkBatch(packets); e != api.OK {
		return nil, e
	}
	return b.passAll(packets), api.OK
}

// Tick lets time go by (P3).
func (b *Box) Tick(ticks int) api.Errno {
	if ticks < 0 || ticks > api.MaxTicks {
		return api.ErrTicks
	}
	for _, t := range b.tenants {
		t.age(ticks)
	}
	return api.OK
}

// Table tells a tenant's mappings (P2).
func (b *Box) Table(tag int) ([]api.Mapping, api.Errno) {
	t, ok := b.tenants[tag]
	if !ok {
		return nil, api.ErrNone
	}
	return t.table(), api.OK
}
