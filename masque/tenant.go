package masque

import "masque/api"

// portKey names a mapping among those of one tenant, as the world sees it.
type portKey struct {
	proto, port int
}

// insideKey names a mapping among those of one tenant, as the tenant sees it.
type insideKey struct {
	proto  int
	inside api.End
}

// tenant is what a box keeps of one: its face, and its mappings, each of them
// in both maps.
type tenant struct {
	outer, low, high int
	byPort           map[portKey]*mapping
	byInside         map[insideKey]*mapping
}

func newTenant(t api.Tenant) *tenant {
	return &tenant{
		outer: t.Outer, low: t.Low, high: t.High,
		byPort:   map[portKey]*mapping{},
		byInside: map[insideKey]*mapping{},
	}
}

// table walks the block and not the map, so that the order needs no sorting.
func (t *tenant) table() []api.Mapping {
	list := make([]api.Mapping, 0, len(t.byPort))
	for proto := api.Datagram; proto <= api.Echo; proto++ {
		for port := t.low; port <= t.high; port++ {
			if m, ok := t.byPort[portKey{proto, port}]; ok {
				list = append(list, m.told())
			}
		}
	}
	return list
}

func (t *tenant) age(ticks int) {
	for _, m := range t.byPort {
		m.Idle += ticks
		if m.Idle >= m.span() {
			t.drop(m)
		}
	}
}

func (t *tenant) add(m *mapping) {
	t.byPort[portKey{m.Proto, m.Port}] = m
	t.byInside[insideKey{m.Proto, m.Inside}] = m
}

func (t *tenant) drop(m *mapping) {
	delete(t.byPort, portKey{m.Proto, m.Port})
	delete(t.byInside, insideKey{m.Proto, m.Inside})
}

// freePort answers the lowest port that no mapping of this proto has.
func (t *tenant) freePort(proto int) (int, bool) {
	for port := t.low; port <= t.high; port++ {
		if _, taken := t.byPort[portKey{proto, port}]; !taken {
			return port, true
		}
	}
	return 0, false
}
