package masque

import (
	"slices"

	"masque/api"
)

// portKey names a mapping among those of one tenant, as the world sees it.
type portKey struct {
	proto, port int
}

// tenant is what a box keeps of one: its block of ports, and its mappings.
type tenant struct {
	low, high int
	byPort    map[portKey]*api.Mapping
}

func newTenant(t api.Tenant) *tenant {
	return &tenant{low: t.Low, high: t.High, byPort: map[portKey]*api.Mapping{}}
}

// table walks the block and not the map, so that the order needs no sorting.
func (t *tenant) table() []api.Mapping {
	list := make([]api.Mapping, 0, len(t.byPort))
	for proto := api.Datagram; proto <= api.Echo; proto++ {
		for port := t.low; port <= t.high; port++ {
			if m, ok := t.byPort[portKey{proto, port}]; ok {
				list = append(list, copied(m))
			}
		}
	}
	return list
}

// copied gives the peers memory of their own: what is told must not lead back
// to what is kept.
func copied(m *api.Mapping) api.Mapping {
	c := *m
	c.Peers = slices.Clone(m.Peers)
	return c
}
