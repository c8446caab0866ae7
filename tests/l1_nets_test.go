package tests

import (
	"testing"

	"loop.example/guardsonnets/impl"
)

// isNet is NetOk by its words, pair by pair.
func isNet(list []int) bool {
	if len(list) == 0 || len(list) > 6 {
		return false
	}
	for a, row := range list {
		if row < 0 || row >= 1<<len(list) {
			return false
		}
		for b, other := range list {
			if has(row, b) != has(other, a) || a == b && has(row, b) {
				return false
			}
		}
	}
	return true
}

// ballTold asks each place whether it is the place or next to it.
func ballTold(net []int, place int) int {
	ball := 0
	for other := range net {
		if other == place || near(net, place, other) {
			ball += 1 << other
		}
	}
	return ball
}

// seenTold asks each place whether a guard is at it or next to it.
func seenTold(net []int, set int) int {
	seen := 0
	for place := range net {
		if ballTold(net, place)&set != 0 {
			seen += 1 << place
		}
	}
	return seen
}

func wiresTold(net []int) int {
	wires := 0
	for b := range net {
		for a := 0; a < b; a++ {
			if near(net, a, b) {
				wires++
			}
		}
	}
	return wires
}

// partsTold gives joined places one name, wire by wire, and returns the part of each place.
func partsTold(net []int) []int {
	names := make([]int, len(net))
	for place := range net {
		names[place] = place
	}
	for a := range net {
		for b := range net {
			if near(net, a, b) {
				old := names[b]
				for place := range net {
					if names[place] == old {
						names[place] = names[a]
					}
				}
			}
		}
	}
	parts := make([]int, len(net))
	for place := range net {
		for other := range net {
			if names[other] == names[place] {
				parts[place] += 1 << other
			}
		}
	}
	return parts
}

// leastPlaces counts the places that are the least ones of their parts.
func leastPlaces(parts []int) int {
	many := 0
	for place, part := range parts {
		if part&(1<<place-1) == 0 {
			many++
		}
	}
	return many
}

func namesTold(set int, order []int) int {
	named := 0
	for place, name := range order {
		if has(set, place) {
			named += 1 << name
		}
	}
	return named
}

func TestP1NoNeighbours(t *testing.T) {
	for places := 1; places <= impl.MaxPlaces; places++ {
		if !impl.NetOk(make([]int, places)) {
			t.Fatal(places)
		}
	}
	if impl.MaxPlaces != 6 {
		t.Fatal(impl.MaxPlaces)
	}
}

func TestP1Nets(t *testing.T) {
	for _, net := range netsUpTo(impl.MaxPlaces) {
		if !impl.NetOk(net) {
			t.Fatal(net)
		}
	}
	if !impl.NetOk([]int{2, 1}) || !impl.NetOk([]int{6, 5, 3}) || !impl.NetOk([]int{62, 61, 59, 55, 47, 31}) {
		t.Fatal("nets")
	}
}

func TestP1NoNets(t *testing.T) {
	for _, list := range notNets() {
		if impl.NetOk(list) {
			t.Fatal(list)
		}
	}
}

// Every list of at most three small numbers is tried, those below 0 among them.
func TestP1ShortLists(t *testing.T) {
	for places := 1; places <= 3; places++ {
		for number := 0; number < 1<<(4*places); number++ {
			list := make([]int, places)
			for k := range list {
				list[k] = number>>(4*k)&15 - 3
			}
			if impl.NetOk(list) != isNet(list) {
				t.Fatal(list)
			}
		}
	}
}

// A net with one bit of one number turned, or a bit past its places, is none.
func TestP1OneBitTurned(t *testing.T) {
	for _, net := range netsUpTo(5) {
		for place := range net {
			for bit := 0; bit < 64; bit++ {
				turned := append([]int{}, net...)
				turned[place] ^= 1 << bit
				if impl.NetOk(turned) {
					t.Fatal(turned)
				}
			}
		}
	}
}

func TestP2BothWays(t *testing.T) {
	for _, net := range netsUpTo(impl.MaxPlaces) {
		for place := range net {
			ball := impl.BallOf(net, place)
			if ball != ballTold(net, place) || !has(ball, place) {
				t.Fatal(net, place, ball)
			}
			for other := range net {
				if has(ball, other) != has(impl.BallOf(net, other), place) {
					t.Fatal(net, place, other)
				}
			}
		}
	}
}

func TestP2Examples(t *testing.T) {
	net := netOf(4, 0, 1, 1, 2)
	if impl.BallOf(net, 0) != 3 || impl.BallOf(net, 1) != 7 || impl.BallOf(net, 2) != 6 || impl.BallOf(net, 3) != 8 {
		t.Fatal(net)
	}
	if impl.BallOf([]int{0}, 0) != 1 || impl.BallOf(make([]int, 6), 5) != 32 {
		t.Fatal("lone places")
	}
}

func TestP2Invalid(t *testing.T) {
	for _, list := range notNets() {
		for place := -1; place <= len(list); place++ {
			if impl.BallOf(list, place) != -1 {
				t.Fatal(list, place)
			}
		}
	}
	for _, net := range netsUpTo(4) {
		for _, place := range notPlaces(len(net)) {
			if impl.BallOf(net, place) != -1 {
				t.Fatal(net, place)
			}
		}
	}
}

func TestP3SeenByBalls(t *testing.T) {
	for _, net := range netsUpTo(impl.MaxPlaces) {
		if impl.SeenBy(net, 0) != 0 {
			t.Fatal(net)
		}
		for set := 0; set < 1<<len(net); set++ {
			seen := impl.SeenBy(net, set)
			if seen != seenTold(net, set) {
				t.Fatal(net, set, seen)
			}
		}
	}
}

func TestP3TwoSets(t *testing.T) {
	for _, net := range netsUpTo(5) {
		seen := make([]int, 1<<len(net))
		for set := range seen {
			seen[set] = impl.SeenBy(net, set)
		}
		for set := range seen {
			for drawn := range seen {
				if seen[set|drawn] != seen[set]|seen[drawn] {
					t.Fatal(net, set, drawn)
				}
			}
		}
	}
}

func TestP3BallHasGuard(t *testing.T) {
	for _, net := range netsUpTo(5) {
		for set := 0; set < 1<<len(net); set++ {
			for place := range net {
				if has(impl.SeenBy(net, set), place) != (impl.BallOf(net, place)&set != 0) {
					t.Fatal(net, set, place)
				}
			}
		}
	}
}

func TestP3Examples(t *testing.T) {
	net := netOf(4, 0, 1, 1, 2)
	if impl.SeenBy(net, 0) != 0 || impl.SeenBy(net, 1) != 3 || impl.SeenBy(net, 2) != 7 || impl.SeenBy(net, 8) != 8 || impl.SeenBy(net, 10) != 15 || impl.SeenBy(net, 15) != 15 {
		t.Fatal(net)
	}
	if impl.SeenBy([]int{0}, 0) != 0 || impl.SeenBy([]int{0}, 1) != 1 || impl.SeenBy(make([]int, 6), 63) != 63 {
		t.Fatal("lone places")
	}
}

func TestP3Invalid(t *testing.T) {
	for _, list := range notNets() {
		for set := -1; set <= 8; set++ {
			if impl.SeenBy(list, set) != -1 {
				t.Fatal(list, set)
			}
		}
	}
	for _, net := range netsUpTo(4) {
		for _, set := range notSets(len(net)) {
			if impl.SeenBy(net, set) != -1 {
				t.Fatal(net, set)
			}
		}
	}
	if impl.SeenBy(make([]int, 6), 64) != -1 {
		t.Fatal("a set past MaxPlaces")
	}
}

func TestP4TwoEnds(t *testing.T) {
	for _, net := range netsUpTo(impl.MaxPlaces) {
		wires := impl.WiresOf(net)
		balls := 0
		for place := range net {
			balls += size(impl.BallOf(net, place))
		}
		if balls != 2*wires+len(net) || wires != wiresTold(net) || wires < len(net)-impl.PartMany(net) {
			t.Fatal(net, wires)
		}
	}
}

func TestP4Examples(t *testing.T) {
	if impl.WiresOf([]int{0}) != 0 || impl.WiresOf(make([]int, 6)) != 0 || impl.WiresOf([]int{2, 1}) != 1 || impl.WiresOf([]int{6, 5, 3}) != 3 || impl.WiresOf([]int{62, 61, 59, 55, 47, 31}) != 15 {
		t.Fatal("wires")
	}
}

func TestP4Invalid(t *testing.T) {
	for _, list := range notNets() {
		if impl.WiresOf(list) != -1 {
			t.Fatal(list)
		}
	}
}

func TestP5Parts(t *testing.T) {
	for _, net := range netsUpTo(impl.MaxPlaces) {
		parts := partsTold(net)
		for place := range net {
			part := impl.PartOf(net, place)
			if part != parts[place] || !has(part, place) || impl.SeenBy(net, part) != part {
				t.Fatal(net, place, part)
			}
			for other := range net {
				if has(part, other) && impl.PartOf(net, other) != part {
					t.Fatal(net, place, other)
				}
			}
		}
	}
}

// The longest ways are those along all places, however these are numbered.
func TestP5LongWays(t *testing.T) {
	for _, order := range ordersOf(impl.MaxPlaces) {
		net := make([]int, len(order))
		for k := 1; k < len(order); k++ {
			net[order[k-1]] |= 1 << order[k]
			net[order[k]] |= 1 << order[k-1]
		}
		if impl.PartOf(net, order[0]) != 63 || impl.PartOf(net, order[5]) != 63 {
			t.Fatal(order)
		}
	}
}

func TestP5Examples(t *testing.T) {
	net := netOf(6, 0, 4, 4, 2, 1, 5)
	if impl.PartOf(net, 0) != 21 || impl.PartOf(net, 2) != 21 || impl.PartOf(net, 5) != 34 || impl.PartOf(net, 3) != 8 {
		t.Fatal(net)
	}
	if impl.PartOf([]int{0}, 0) != 1 || impl.PartOf(make([]int, 6), 5) != 32 {
		t.Fatal("lone places")
	}
}

func TestP5Invalid(t *testing.T) {
	for _, list := range notNets() {
		for place := -1; place <= len(list); place++ {
			if impl.PartOf(list, place) != -1 {
				t.Fatal(list, place)
			}
		}
	}
	for _, net := range netsUpTo(4) {
		for _, place := range notPlaces(len(net)) {
			if impl.PartOf(net, place) != -1 {
				t.Fatal(net, place)
			}
		}
	}
}

func TestP6LeastPlaces(t *testing.T) {
	for _, net := range netsUpTo(impl.MaxPlaces) {
		parts := make([]int, len(net))
		for place := range net {
			parts[place] = impl.PartOf(net, place)
		}
		many := impl.PartMany(net)
		if many != leastPlaces(parts) || many != leastPlaces(partsTold(net)) {
			t.Fatal(net, many)
		}
	}
}

func TestP6NoWires(t *testing.T) {
	for places := 1; places <= impl.MaxPlaces; places++ {
		if impl.PartMany(make([]int, places)) != places {
			t.Fatal(places)
		}
	}
}

func TestP6Examples(t *testing.T) {
	if impl.PartMany(netOf(6, 0, 4, 4, 2, 1, 5)) != 3 || impl.PartMany([]int{62, 61, 59, 55, 47, 31}) != 1 || impl.PartMany(netOf(6, 0, 5, 1, 4, 2, 3)) != 3 {
		t.Fatal("parts")
	}
}

func TestP6Invalid(t *testing.T) {
	for _, list := range notNets() {
		if impl.PartMany(list) != -1 {
			t.Fatal(list)
		}
	}
}

func TestP7PartsAlone(t *testing.T) {
	for _, net := range netsUpTo(impl.MaxPlaces) {
		lone := impl.LoneOf(net)
		alone := 0
		for place := range net {
			if impl.PartOf(net, place) == 1<<place {
				alone += 1 << place
			}
			if has(lone, place) != (ballTold(net, place) == 1<<place) {
				t.Fatal(net, place)
			}
		}
		if lone != alone {
			t.Fatal(net, lone)
		}
	}
}

func TestP7Examples(t *testing.T) {
	if impl.LoneOf([]int{0}) != 1 || impl.LoneOf([]int{2, 1}) != 0 || impl.LoneOf(make([]int, 6)) != 63 || impl.LoneOf(netOf(6, 1, 4)) != 45 {
		t.Fatal("lone places")
	}
}

func TestP7Invalid(t *testing.T) {
	for _, list := range notNets() {
		if impl.LoneOf(list) != -1 {
			t.Fatal(list)
		}
	}
}

// checkNamed compares a net by its new names with the one of before, place by place.
func checkNamed(t *testing.T, net []int, order []int) {
	named, ok := impl.NamedNet(net, order)
	if !ok || len(named) != len(net) || !isNet(named) || !impl.NetOk(named) {
		t.Fatal(net, order, named, ok)
	}
	if impl.WiresOf(named) != impl.WiresOf(net) || impl.PartMany(named) != impl.PartMany(net) {
		t.Fatal(net, order, named)
	}
	for place := range net {
		if impl.BallOf(named, order[place]) != namesTold(impl.BallOf(net, place), order) {
			t.Fatal(net, order, named)
		}
	}
}

func TestP8Names(t *testing.T) {
	for places := 1; places <= impl.MaxPlaces; places++ {
		step := 1
		if places == impl.MaxPlaces {
			// All nets of six places in all orders would take too long.
			step = 41
		}
		for _, order := range ordersOf(places) {
			for number := 0; number < 1<<pairsOf(places); number += step {
				checkNamed(t, numberedNet(places, number), order)
			}
		}
	}
}

func TestP8Examples(t *testing.T) {
	// The place 0 is named 1, the place 1 is named 2, and the place 2 is named 0.
	named, ok := impl.NamedNet(netOf(3, 0, 1), []int{1, 2, 0})
	if !ok || !sameList(named, netOf(3, 1, 2)) {
		t.Fatal(named, ok)
	}
	named, ok = impl.NamedNet([]int{0}, []int{0})
	if !ok || !sameList(named, []int{0}) {
		t.Fatal(named, ok)
	}
	named, ok = impl.NamedNet(netOf(6, 0, 1, 0, 2), []int{5, 4, 3, 2, 1, 0})
	if !ok || !sameList(named, netOf(6, 5, 4, 5, 3)) {
		t.Fatal(named, ok)
	}
}

func checkNotNamed(t *testing.T, net []int, order []int) {
	named, ok := impl.NamedNet(net, order)
	if ok || len(named) != 0 {
		t.Fatal(net, order, named, ok)
	}
}

func TestP8NoNets(t *testing.T) {
	for _, list := range notNets() {
		order := make([]int, len(list))
		for k := range order {
			order[k] = k
		}
		checkNotNamed(t, list, order)
		checkNotNamed(t, list, nil)
		checkNotNamed(t, list, []int{0})
	}
}

func TestP8NoOrders(t *testing.T) {
	for places := 1; places <= impl.MaxPlaces; places++ {
		net := numberedNet(places, 1)
		order := ordersOf(places)[0]
		checkNotNamed(t, net, nil)
		checkNotNamed(t, net, order[1:])
		checkNotNamed(t, net, append(append([]int{}, order...), places))
		checkNotNamed(t, net, append(append([]int{}, order...), 0))
		for place := range order {
			wrong := append([]int{}, order...)
			for _, number := range notPlaces(places) {
				wrong[place] = number
				checkNotNamed(t, net, wrong)
			}
			for other := range order {
				wrong[place] = order[other]
				if other != place {
					checkNotNamed(t, net, wrong)
				}
			}
		}
	}
}

// Every list of three numbers in -1..3 is tried as an order of three places.
func TestP8ShortOrders(t *testing.T) {
	net := netOf(3, 0, 1)
	for number := 0; number < 125; number++ {
		order := []int{number%5 - 1, number/5%5 - 1, number/25 - 1}
		names := 0
		for _, name := range order {
			if name >= 0 && name < 3 {
				names |= 1 << name
			}
		}
		if names == 7 {
			checkNamed(t, net, order)
		} else {
			checkNotNamed(t, net, order)
		}
	}
}

// askAll calls each function of the chapter with a net, a number and an order.
func askAll(net []int, number int, order []int) {
	impl.NetOk(net)
	impl.BallOf(net, number)
	impl.SeenBy(net, number)
	impl.WiresOf(net)
	impl.PartOf(net, number)
	impl.PartMany(net)
	impl.LoneOf(net)
	impl.NamedNet(net, order)
}

func checkUntouched(t *testing.T, net []int, order []int) {
	lentNet := lent(net)
	lentOrder := lent(order)
	for number := -1; number <= 64; number++ {
		askAll(lentNet, number, lentOrder)
	}
	askAll(lentNet, leastInt, lentOrder)
	askAll(lentNet, mostInt, lentOrder)
	if !untouched(lentNet, net) || !untouched(lentOrder, order) {
		t.Fatal(net, order)
	}
}

func TestChapter1WritesNothing(t *testing.T) {
	for _, net := range netsUpTo(4) {
		for _, order := range ordersOf(len(net)) {
			checkUntouched(t, net, order)
		}
	}
	for _, list := range notNets() {
		checkUntouched(t, list, []int{1, 0})
		checkUntouched(t, list, list)
	}
	checkUntouched(t, netOf(6, 0, 1, 2, 5), []int{5, 0, 4, 1, 3, 2})
	checkUntouched(t, netOf(6, 0, 1, 2, 5), []int{5, 0, 4, 1, 3, 3})
}

func TestChapter1AnswersAreNew(t *testing.T) {
	for places := 1; places <= impl.MaxPlaces; places++ {
		for _, order := range ordersOf(places) {
			net := numberedNet(places, 1)
			lentNet := lent(net)
			lentOrder := lent(order)
			first, _ := impl.NamedNet(lentNet, lentOrder)
			was := append([]int{}, first...)
			second, _ := impl.NamedNet(lentNet, lentOrder)
			spoil(first)
			if !untouched(lentNet, net) || !untouched(lentOrder, order) || !sameList(second, was) {
				t.Fatal(net, order)
			}
		}
	}
}
