package network

import "podium/api"

const maxData = 1 << 20 // the most bytes of a packet

func validQueue(queue []api.Packet) bool {
	if len(queue) > api.MaxPackets {
		return false
	}
	for _, p := range queue {
		if !validPacket(p) {
			return false
		}
	}
	return true
}

func validPacket(p api.Packet) bool {
	return validEnds(p.From, p.To) && len(p.Data) <= maxData
}

// validEnds reports whether a link can have these ends.
func validEnds(a, b int) bool {
	return a != b && isParty(a) && isParty(b)
}

func isParty(a int) bool {
	return 0 <= a && a < api.MaxNodes
}

func validApart(apart [][2]int) bool {
	for i, l := range apart {
		if !validEnds(l[0], l[1]) || l != linkOf(l[0], l[1]) {
			return false
		}
		if i > 0 && compareLinks(apart[i-1], l) >= 0 {
			return false
		}
	}
	return true
}
