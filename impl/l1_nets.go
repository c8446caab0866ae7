package impl

// MaxPlaces is the maximum number of places of a net.
const MaxPlaces = 6

// NetOk reports whether a net has for each of 1..MaxPlaces places the set of its neighbours, told by a number to which each of them adds 1 for the place 0, 2 for 1, and so on, each next one twice as much, of the places of the net alone: no place is its own neighbour, and each one is a neighbour of each of its neighbours.
func NetOk(net []int) bool {
	if len(net) < 1 || len(net) > MaxPlaces {
		return false
	}
	for place := 0; place < len(net); place++ {
		if !setIn(net, net[place]) || hasPlace(net[place], place) || !knownBack(net, place) {
			return false
		}
	}
	return true
}

// BallOf returns the set of a place, from 0 on, of a net, and all of its neighbours (NetOk); -1 for others.
func BallOf(net []int, place int) int {
	if !NetOk(net) || !placeIn(net, place) {
		return -1
	}
	return ballIn(net, place)
}

// SeenBy returns the set of all places that guards at the places of a set watch: these places and all of their neighbours (NetOk, BallOf); -1 for others.
func SeenBy(net []int, set int) int {
	if !NetOk(net) || !setIn(net, set) {
		return -1
	}
	return seenIn(net, set)
}

// WiresOf returns how many pairs of neighbours a net has (NetOk); -1 for others.
func WiresOf(net []int) int {
	if !NetOk(net) {
		return -1
	}
	ends := 0
	for place := 0; place < len(net); place++ {
		ends += sizeOf(net[place])
	}
	return ends / 2
}

// PartOf returns the set of all places to which one comes from a place, from 0 on, of a net by steps to neighbours, itself among them (NetOk); -1 for others.
func PartOf(net []int, place int) int {
	if !NetOk(net) || !placeIn(net, place) {
		return -1
	}
	return partIn(net, place)
}

// PartMany returns into how many parts (PartOf) a net falls (NetOk); -1 for others.
func PartMany(net []int) int {
	if !NetOk(net) {
		return -1
	}
	many := 0
	reached := 0
	for place := 0; place < len(net); place++ {
		if !hasPlace(reached, place) {
			many++
			reached |= partIn(net, place)
		}
	}
	return many
}

// LoneOf returns the set of all places of a net without neighbours (NetOk); -1 for others.
func LoneOf(net []int) int {
	if !NetOk(net) {
		return -1
	}
	lone := 0
	for place := 0; place < len(net); place++ {
		if net[place] == 0 {
			lone |= 1 << place
		}
	}
	return lone
}

// NamedNet returns a net (NetOk) in which each place has the number that an order tells for it, which has each number from 0 on, and less than the places, once; and true; nil and false for others.
func NamedNet(net []int, order []int) ([]int, bool) {
	if !NetOk(net) || !orderIn(net, order) {
		return nil, false
	}
	named := make([]int, len(net))
	for place := 0; place < len(net); place++ {
		named[order[place]] = namedSet(net[place], order)
	}
	return named, true
}

// The helpers below do not check their arguments again: they are called with
// lists of at most MaxPlaces numbers, and shift by places of these lists alone.

func placeIn(net []int, place int) bool {
	return place >= 0 && place < len(net)
}

func setIn(net []int, set int) bool {
	return set >= 0 && set < 1<<len(net)
}

func hasPlace(set int, place int) bool {
	return set>>place&1 == 1
}

func sizeOf(set int) int {
	size := 0
	for place := 0; place < MaxPlaces; place++ {
		size += set >> place & 1
	}
	return size
}

func knownBack(net []int, place int) bool {
	for other := 0; other < len(net); other++ {
		if hasPlace(net[place], other) && !hasPlace(net[other], place) {
			return false
		}
	}
	return true
}

func ballIn(net []int, place int) int {
	return net[place] | 1<<place
}

func seenIn(net []int, set int) int {
	seen := 0
	for place := 0; place < len(net); place++ {
		if hasPlace(set, place) {
			seen |= ballIn(net, place)
		}
	}
	return seen
}

func partIn(net []int, place int) int {
	part := 1 << place
	// A wave adds a place or changes nothing ever after, so one wave fewer
	// than there are places reaches the whole part.
	for wave := 1; wave < len(net); wave++ {
		part = seenIn(net, part)
	}
	return part
}

func orderIn(net []int, order []int) bool {
	if len(order) != len(net) {
		return false
	}
	used := 0
	for place := 0; place < len(order); place++ {
		if !placeIn(net, order[place]) || hasPlace(used, order[place]) {
			return false
		}
		used |= 1 << order[place]
	}
	return true
}

func namedSet(set int, order []int) int {
	named := 0
	for place := 0; place < len(order); place++ {
		if hasPlace(set, place) {
			named |= 1 << order[place]
		}
	}
	return named
}
