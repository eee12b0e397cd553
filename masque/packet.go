package masque

import "masque/api"

// isPacket does not ask for the Tag: one that no tenant has is told by a
// verdict, not by an error.
func isPacket(p api.Packet) bool {
	return p.Proto >= api.Datagram && p.Proto <= api.Echo &&
		isEnd(p.Src) && isEnd(p.Dst) && mayQuote(p) && mayMark(p)
}

func isEnd(e api.End) bool {
	return e.Addr >= 0 && e.Addr <= api.MaxAddr && e.Port >= 0 && e.Port <= api.MaxPort
}

func mayQuote(p api.Packet) bool {
	if p.Error {
		return isEnd(p.Quote.Src) && isEnd(p.Quote.Dst)
	}
	return p.Quote == api.Quote{}
}

func mayMark(p api.Packet) bool {
	if p.Proto == api.Stream && !p.Error {
		return true
	}
	return !p.Syn && !p.Fin && !p.Rst
}
