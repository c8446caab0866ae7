package tests

import (
	"testing"

	"loop.example/guardsonnets/impl"
)

// totalTold asks each place whether a place of the set is its neighbour.
func totalTold(net []int, set int) bool {
	for place := range net {
		helped := false
		for other := range net {
			helped = helped || has(set, other) && near(net, place, other)
		}
		if !helped {
			return false
		}
	}
	return true
}

// totalsTold tells for each set of a net, by its number, whether each place has a neighbour in it.
func totalsTold(net []int) []bool {
	totals := make([]bool, 1<<len(net))
	for set := range totals {
		totals[set] = totalTold(net, set)
	}
	return totals
}

// within returns a net with the wires alone that have both ends in a set.
func within(net []int, set int) []int {
	inner := make([]int, len(net))
	for place := range net {
		if has(set, place) {
			inner[place] = net[place] & set
		}
	}
	return inner
}

// togetherTold reports whether a set is one of the parts of the wires within it.
func togetherTold(net []int, set int) bool {
	for place, part := range partsTold(within(net, set)) {
		if has(set, place) {
			return part == set
		}
	}
	return false
}

// joinedsTold tells for each set of a net, by its number, whether it stands together and watches.
func joinedsTold(net []int) []bool {
	joineds := watchesTold(net)
	for set, watch := range joineds {
		joineds[set] = watch && togetherTold(net, set)
	}
	return joineds
}

// treesOf returns all nets of as many places that are one part with one wire fewer than places.
func treesOf(places int) [][]int {
	trees := [][]int{}
	for number := 0; number < 1<<pairsOf(places); number++ {
		if size(number) != places-1 {
			continue
		}
		if net := numberedNet(places, number); leastPlaces(partsTold(net)) == 1 {
			trees = append(trees, net)
		}
	}
	return trees
}

// allTrees returns the trees of each number of places.
func allTrees() [][][]int {
	trees := [][][]int{{}}
	for places := 1; places <= impl.MaxPlaces; places++ {
		trees = append(trees, treesOf(places))
	}
	return trees
}

// isWithin reports whether all wires of a net are wires of another one.
func isWithin(net []int, around []int) bool {
	for place := range net {
		if net[place]&^around[place] != 0 {
			return false
		}
	}
	return true
}

// endsTold counts the places with one neighbour alone.
func endsTold(net []int) int {
	ends := 0
	for _, near := range net {
		if near != 0 && near&(near-1) == 0 {
			ends++
		}
	}
	return ends
}

// leavesTold returns the most leaves of the trees that are within a net, or -1.
func leavesTold(net []int, trees [][]int) int {
	most := -1
	for _, tree := range trees {
		if len(net) > 1 && isWithin(tree, net) {
			most = max(most, endsTold(tree))
		}
	}
	return most
}

func TestP31Fewest(t *testing.T) {
	for _, net := range netsUpTo(impl.MaxPlaces) {
		if fewest := impl.FewestTotal(net); fewest != fewestOf(totalsTold(net)) {
			t.Fatal(net, fewest)
		}
	}
}

func TestP31Bounds(t *testing.T) {
	for _, net := range netsUpTo(impl.MaxPlaces) {
		fewest := impl.FewestTotal(net)
		watch := impl.FewestWatch(net)
		if (fewest != -1) != (impl.LoneOf(net) == 0) {
			t.Fatal(net, fewest)
		}
		if fewest != -1 && (fewest < watch || fewest < 2 || fewest > 2*watch) {
			t.Fatal(net, fewest)
		}
	}
}

func TestP31Examples(t *testing.T) {
	for places := 2; places <= impl.MaxPlaces; places++ {
		if impl.FewestTotal(fullNet(places)) != 2 || impl.FewestTotal(starAt(places, 0)) != 2 || impl.FewestTotal(starAt(places, places-1)) != 2 {
			t.Fatal(places)
		}
	}
	if impl.FewestTotal([]int{2, 1}) != 2 || impl.FewestTotal(ringOfSix()) != 4 || impl.FewestTotal(wayOf(6)) != 4 || impl.FewestTotal(wayOf(5)) != 3 {
		t.Fatal("a ring and ways")
	}
	if impl.FewestTotal(twoMiddles()) != 2 || impl.FewestTotal(prismOfSix()) != 2 || impl.FewestTotal(threePairs()) != 6 || impl.FewestTotal(netOf(5, 0, 1, 1, 2, 3, 4)) != 4 {
		t.Fatal("two middles, two rings and parts")
	}
}

func TestP31LonePlaces(t *testing.T) {
	for places := 1; places <= impl.MaxPlaces; places++ {
		if impl.FewestTotal(make([]int, places)) != -1 {
			t.Fatal(places)
		}
	}
	if impl.FewestTotal(netOf(3, 0, 1)) != -1 || impl.FewestTotal(netOf(3, 1, 2)) != -1 || impl.FewestTotal(starAndTwo()) != -1 {
		t.Fatal("lone places beside others")
	}
}

func TestP31Invalid(t *testing.T) {
	for _, list := range notNets() {
		if impl.FewestTotal(list) != -1 {
			t.Fatal(list)
		}
	}
}

func TestP32Fewest(t *testing.T) {
	for _, net := range netsUpTo(impl.MaxPlaces) {
		if fewest := impl.FewestJoined(net); fewest != fewestOf(joinedsTold(net)) {
			t.Fatal(net, fewest)
		}
	}
}

func TestP32Bounds(t *testing.T) {
	for _, net := range netsUpTo(impl.MaxPlaces) {
		fewest := impl.FewestJoined(net)
		watch := impl.FewestWatch(net)
		if (fewest != -1) != (impl.PartMany(net) == 1) {
			t.Fatal(net, fewest)
		}
		if fewest != -1 && (fewest < watch || fewest > 3*watch-2) {
			t.Fatal(net, fewest)
		}
		if fewest >= 2 && fewest < impl.FewestTotal(net) {
			t.Fatal(net, fewest)
		}
	}
}

func TestP32Examples(t *testing.T) {
	for places := 1; places <= impl.MaxPlaces; places++ {
		if impl.FewestJoined(fullNet(places)) != 1 || impl.FewestJoined(starAt(places, 0)) != 1 || impl.FewestJoined(starAt(places, places-1)) != 1 {
			t.Fatal(places)
		}
	}
	if impl.FewestJoined([]int{0}) != 1 || impl.FewestJoined([]int{2, 1}) != 1 || impl.FewestJoined(wayOf(6)) != 4 || impl.FewestJoined(wayOf(5)) != 3 || impl.FewestJoined(ringOfSix()) != 4 {
		t.Fatal("ways and a ring")
	}
	if impl.FewestJoined(twoMiddles()) != 2 || impl.FewestJoined(prismOfSix()) != 2 {
		t.Fatal("two middles and two rings")
	}
}

func TestP32Parts(t *testing.T) {
	for places := 2; places <= impl.MaxPlaces; places++ {
		if impl.FewestJoined(make([]int, places)) != -1 {
			t.Fatal(places)
		}
	}
	if impl.FewestJoined(netOf(3, 0, 1)) != -1 || impl.FewestJoined(threePairs()) != -1 || impl.FewestJoined(starAndTwo()) != -1 {
		t.Fatal("parts")
	}
}

func TestP32Invalid(t *testing.T) {
	for _, list := range notNets() {
		if impl.FewestJoined(list) != -1 {
			t.Fatal(list)
		}
	}
}

func TestP33Most(t *testing.T) {
	trees := allTrees()
	for _, net := range netsUpTo(impl.MaxPlaces) {
		if most := impl.MostLeaves(net); most != leavesTold(net, trees[len(net)]) {
			t.Fatal(net, most)
		}
	}
}

func TestP33AllPlaces(t *testing.T) {
	for _, net := range netsUpTo(impl.MaxPlaces) {
		most := impl.MostLeaves(net)
		if (most != -1) != (impl.PartMany(net) == 1 && len(net) > 1) {
			t.Fatal(net, most)
		}
		if most == -1 {
			continue
		}
		if most < 2 || len(net) == 2 && most != 2 || len(net) > 2 && most+impl.FewestJoined(net) != len(net) {
			t.Fatal(net, most)
		}
	}
}

func TestP33Examples(t *testing.T) {
	for places := 3; places <= impl.MaxPlaces; places++ {
		if impl.MostLeaves(fullNet(places)) != places-1 || impl.MostLeaves(starAt(places, places-1)) != places-1 || impl.MostLeaves(wayOf(places)) != 2 {
			t.Fatal(places)
		}
	}
	if impl.MostLeaves([]int{2, 1}) != 2 || impl.MostLeaves(ringOfSix()) != 2 || impl.MostLeaves(twoMiddles()) != 4 || impl.MostLeaves(prismOfSix()) != 4 {
		t.Fatal("two places, rings and two middles")
	}
}

func TestP33None(t *testing.T) {
	for places := 1; places <= impl.MaxPlaces; places++ {
		if impl.MostLeaves(make([]int, places)) != -1 {
			t.Fatal(places)
		}
	}
	if impl.MostLeaves(netOf(3, 0, 1)) != -1 || impl.MostLeaves(threePairs()) != -1 || impl.MostLeaves(netOf(6, 0, 1, 1, 2, 2, 0, 3, 4, 4, 5, 5, 3)) != -1 || impl.MostLeaves(starAndTwo()) != -1 {
		t.Fatal("parts")
	}
}

func TestP33Invalid(t *testing.T) {
	for _, list := range notNets() {
		if impl.MostLeaves(list) != -1 {
			t.Fatal(list)
		}
	}
}

func TestP74Total(t *testing.T) {
	for _, net := range netsUpTo(impl.MaxPlaces) {
		for set, told := range totalsTold(net) {
			if impl.TotalOk(net, set) != told {
				t.Fatal(net, set)
			}
		}
	}
}

func TestP74MoreIsWatched(t *testing.T) {
	for _, net := range netsUpTo(impl.MaxPlaces) {
		all := 1<<len(net) - 1
		if impl.TotalOk(net, all) != (impl.LoneOf(net) == 0) {
			t.Fatal(net)
		}
		for set := 0; set <= all; set++ {
			if !impl.TotalOk(net, set) {
				continue
			}
			if !impl.WatchOk(net, set) {
				t.Fatal(net, set)
			}
			for place := range net {
				if !impl.TotalOk(net, set|1<<place) {
					t.Fatal(net, set, place)
				}
			}
		}
	}
}

func TestP74Examples(t *testing.T) {
	if impl.TotalOk([]int{0}, 0) || impl.TotalOk([]int{0}, 1) || impl.TotalOk([]int{2, 1}, 1) || impl.TotalOk([]int{2, 1}, 2) || !impl.TotalOk([]int{2, 1}, 3) {
		t.Fatal("one place and two")
	}
	if impl.TotalOk(make([]int, 6), 63) || impl.TotalOk(make([]int, 6), 0) || impl.TotalOk(netOf(3, 0, 1), 7) || impl.TotalOk(starAndTwo(), 63) {
		t.Fatal("places without neighbours")
	}
	// The own guard of a place is no neighbour of it.
	if impl.TotalOk(allNeighbours(), 0) || impl.TotalOk(allNeighbours(), 32) || !impl.TotalOk(allNeighbours(), 33) || !impl.TotalOk(allNeighbours(), 63) {
		t.Fatal("all are neighbours")
	}
	if impl.TotalOk(ringOfSix(), 9) || impl.TotalOk(ringOfSix(), 21) || impl.TotalOk(ringOfSix(), 7) || !impl.TotalOk(ringOfSix(), 27) || !impl.TotalOk(ringOfSix(), 15) {
		t.Fatal("a ring")
	}
	if impl.TotalOk(starAt(6, 5), 32) || impl.TotalOk(starAt(6, 5), 31) || !impl.TotalOk(starAt(6, 5), 33) || !impl.TotalOk(twoMiddles(), 3) || !impl.TotalOk(threePairs(), 63) || impl.TotalOk(threePairs(), 31) {
		t.Fatal("a star, two middles and parts")
	}
}

func TestP74Invalid(t *testing.T) {
	for _, wrong := range wrongSets() {
		if impl.TotalOk(wrong.net, wrong.set) {
			t.Fatal(wrong.net, wrong.set)
		}
	}
}

func TestP75Together(t *testing.T) {
	for _, net := range netsUpTo(impl.MaxPlaces) {
		for set := 0; set < 1<<len(net); set++ {
			if impl.TogetherOk(net, set) != togetherTold(net, set) {
				t.Fatal(net, set)
			}
		}
	}
}

func TestP75OnePart(t *testing.T) {
	for _, net := range netsUpTo(impl.MaxPlaces) {
		for place := range net {
			if !impl.TogetherOk(net, 1<<place) || !impl.TogetherOk(net, impl.PartOf(net, place)) {
				t.Fatal(net, place)
			}
		}
		for set := 0; set < 1<<len(net); set++ {
			for place := range net {
				if has(set, place) && impl.TogetherOk(net, set) && set&^impl.PartOf(net, place) != 0 {
					t.Fatal(net, set, place)
				}
			}
		}
	}
}

func TestP75Examples(t *testing.T) {
	if impl.TogetherOk([]int{0}, 0) || !impl.TogetherOk([]int{0}, 1) || impl.TogetherOk([]int{2, 1}, 0) || !impl.TogetherOk([]int{2, 1}, 3) {
		t.Fatal("one place and two")
	}
	if impl.TogetherOk(make([]int, 6), 0) || !impl.TogetherOk(make([]int, 6), 32) || impl.TogetherOk(make([]int, 6), 48) || impl.TogetherOk(make([]int, 6), 63) {
		t.Fatal("no wires")
	}
	if impl.TogetherOk(allNeighbours(), 0) || !impl.TogetherOk(allNeighbours(), 33) || !impl.TogetherOk(allNeighbours(), 63) {
		t.Fatal("all are neighbours")
	}
	// Steps through a place that is not in the set do not count.
	if impl.TogetherOk(ringOfSix(), 5) || impl.TogetherOk(ringOfSix(), 27) || !impl.TogetherOk(ringOfSix(), 7) || !impl.TogetherOk(ringOfSix(), 51) || !impl.TogetherOk(ringOfSix(), 63) {
		t.Fatal("a ring")
	}
	if impl.TogetherOk(starAt(6, 5), 31) || !impl.TogetherOk(starAt(6, 5), 63) || !impl.TogetherOk(threePairs(), 33) || impl.TogetherOk(threePairs(), 3) || impl.TogetherOk(threePairs(), 63) {
		t.Fatal("a star and parts")
	}
	// The whole way is walked from its one end to the other.
	if !impl.TogetherOk(wayOf(6), 63) || impl.TogetherOk(wayOf(6), 47) || !impl.TogetherOk(netOf(6, 0, 5, 5, 1, 1, 4, 4, 2, 2, 3), 63) {
		t.Fatal("ways")
	}
}

func TestP75Invalid(t *testing.T) {
	for _, wrong := range wrongSets() {
		if impl.TogetherOk(wrong.net, wrong.set) {
			t.Fatal(wrong.net, wrong.set)
		}
	}
}

func TestP76Joined(t *testing.T) {
	for _, net := range netsUpTo(impl.MaxPlaces) {
		for set, told := range joinedsTold(net) {
			if impl.JoinedWatchOk(net, set) != told {
				t.Fatal(net, set)
			}
		}
	}
}

func TestP76NeedsNoHelp(t *testing.T) {
	for _, net := range netsUpTo(impl.MaxPlaces) {
		for set := 0; set < 1<<len(net); set++ {
			joined := impl.JoinedWatchOk(net, set)
			if joined != (impl.TogetherOk(net, set) && impl.WatchOk(net, set)) || joined && impl.PartMany(net) != 1 {
				t.Fatal(net, set)
			}
			if joined && size(set) >= 2 && !impl.TotalOk(net, set) {
				t.Fatal(net, set)
			}
		}
	}
}

func TestP76Examples(t *testing.T) {
	if impl.JoinedWatchOk([]int{0}, 0) || !impl.JoinedWatchOk([]int{0}, 1) || !impl.JoinedWatchOk([]int{2, 1}, 2) || !impl.JoinedWatchOk([]int{2, 1}, 3) {
		t.Fatal("one place and two")
	}
	if impl.JoinedWatchOk(make([]int, 6), 63) || impl.JoinedWatchOk(make([]int, 6), 1) || impl.JoinedWatchOk(threePairs(), 7) || impl.JoinedWatchOk(threePairs(), 63) || impl.JoinedWatchOk(starAndTwo(), 49) {
		t.Fatal("parts")
	}
	if impl.JoinedWatchOk(allNeighbours(), 0) || !impl.JoinedWatchOk(allNeighbours(), 8) || !impl.JoinedWatchOk(allNeighbours(), 63) {
		t.Fatal("all are neighbours")
	}
	// It watches apart, and stands together without watching.
	if impl.JoinedWatchOk(ringOfSix(), 9) || impl.JoinedWatchOk(ringOfSix(), 7) || !impl.JoinedWatchOk(ringOfSix(), 15) || !impl.JoinedWatchOk(ringOfSix(), 63) {
		t.Fatal("a ring")
	}
	if !impl.JoinedWatchOk(starAt(6, 5), 32) || impl.JoinedWatchOk(starAt(6, 5), 31) || impl.JoinedWatchOk(starAt(6, 5), 1) || !impl.JoinedWatchOk(twoMiddles(), 3) {
		t.Fatal("a star and two middles")
	}
}

func TestP76Invalid(t *testing.T) {
	for _, wrong := range wrongSets() {
		if impl.JoinedWatchOk(wrong.net, wrong.set) {
			t.Fatal(wrong.net, wrong.set)
		}
	}
}

// askChapter6 calls each function of the chapter with a net and a set.
func askChapter6(net []int, set int) {
	impl.TotalOk(net, set)
	impl.FewestTotal(net)
	impl.TogetherOk(net, set)
	impl.JoinedWatchOk(net, set)
	impl.FewestJoined(net)
}

func TestChapter6WritesNothing(t *testing.T) {
	for _, list := range listsToLend() {
		lentList := lent(list)
		for _, set := range setsToAsk() {
			askChapter6(lentList, set)
		}
		impl.MostLeaves(lentList)
		if !untouched(lentList, list) {
			t.Fatal(list)
		}
	}
}
