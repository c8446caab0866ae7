package tests

import (
	"testing"

	"loop.example/guardsonnets/impl"
)

// watchTold asks each place whether a guard is at it or next to it.
func watchTold(net []int, set int) bool {
	for place := range net {
		if ballTold(net, place)&set == 0 {
			return false
		}
	}
	return true
}

// watchesTold tells for each set of a net, by its number, whether it watches.
func watchesTold(net []int) []bool {
	watches := make([]bool, 1<<len(net))
	for set := range watches {
		watches[set] = watchTold(net, set)
	}
	return watches
}

// leastTold reports whether a set watches, and no other set within it does.
func leastTold(watches []bool, set int) bool {
	for within := 0; within < set; within++ {
		if within&set == within && watches[within] {
			return false
		}
	}
	return watches[set]
}

// leastSets lists the sets that are least ones.
func leastSets(watches []bool) []int {
	list := []int{}
	for set := range watches {
		if leastTold(watches, set) {
			list = append(list, set)
		}
	}
	return list
}

// firstBySize returns the first set that watches, if smaller sets go before greater ones.
func firstBySize(watches []bool) int {
	for many := 0; many <= 6; many++ {
		for set, good := range watches {
			if good && size(set) == many {
				return set
			}
		}
	}
	return -1
}

// leastWithin returns the least number of a set that watches within a set.
// Who takes the greatest places first, where that can be done, comes to it:
// what is within a watch less the place stays a watch with the place added.
func leastWithin(watches []bool, set int) int {
	for within := 0; within <= set; within++ {
		if within&set == within && watches[within] {
			return within
		}
	}
	return -1
}

func TestP9BallsHaveGuards(t *testing.T) {
	for _, net := range netsUpTo(impl.MaxPlaces) {
		all := 1<<len(net) - 1
		if !impl.WatchOk(net, all) || impl.WatchOk(net, 0) {
			t.Fatal(net)
		}
		for set := 0; set <= all; set++ {
			guarded := true
			for place := range net {
				guarded = guarded && impl.BallOf(net, place)&set != 0
			}
			if impl.WatchOk(net, set) != guarded || guarded != watchTold(net, set) {
				t.Fatal(net, set)
			}
		}
	}
}

func TestP9MoreGuards(t *testing.T) {
	for _, net := range netsUpTo(5) {
		for set := 0; set < 1<<len(net); set++ {
			for drawn := 0; drawn < 1<<len(net); drawn++ {
				if impl.WatchOk(net, set) && !impl.WatchOk(net, set|drawn) {
					t.Fatal(net, set, drawn)
				}
			}
		}
	}
}

func TestP9Examples(t *testing.T) {
	way := netOf(4, 0, 1, 1, 2, 2, 3)
	if impl.WatchOk(way, 0) || impl.WatchOk(way, 3) || !impl.WatchOk(way, 5) || !impl.WatchOk(way, 9) || impl.WatchOk(way, 12) || !impl.WatchOk(way, 15) {
		t.Fatal("a way of four places")
	}
	if impl.WatchOk([]int{0}, 0) || !impl.WatchOk([]int{0}, 1) {
		t.Fatal("one place")
	}
	if impl.WatchOk(make([]int, 6), 31) || impl.WatchOk(make([]int, 6), 62) || !impl.WatchOk(make([]int, 6), 63) {
		t.Fatal("no wires")
	}
	if impl.WatchOk(allNeighbours(), 0) || !impl.WatchOk(allNeighbours(), 1) || !impl.WatchOk(allNeighbours(), 32) {
		t.Fatal("all are neighbours")
	}
	if impl.WatchOk(netOf(3, 0, 1), 3) || !impl.WatchOk(netOf(3, 0, 1), 5) {
		t.Fatal("a lone place")
	}
}

func TestP9Invalid(t *testing.T) {
	for _, wrong := range wrongSets() {
		if impl.WatchOk(wrong.net, wrong.set) {
			t.Fatal(wrong.net, wrong.set)
		}
	}
}

func TestP10LeastWatchOk(t *testing.T) {
	for _, net := range netsUpTo(impl.MaxPlaces) {
		watches := watchesTold(net)
		for set := range watches {
			if impl.LeastWatchOk(net, set) != leastTold(watches, set) {
				t.Fatal(net, set)
			}
		}
	}
}

func TestP10FreePlacesWatch(t *testing.T) {
	for _, net := range netsUpTo(impl.MaxPlaces) {
		all := 1<<len(net) - 1
		for set := 0; set <= all; set++ {
			if impl.LoneOf(net) == 0 && impl.LeastWatchOk(net, set) && !impl.WatchOk(net, all-set) {
				t.Fatal(net, set)
			}
		}
	}
}

func TestP10NoWatchWithin(t *testing.T) {
	for _, net := range netsUpTo(5) {
		for set := 0; set < 1<<len(net); set++ {
			for within := 0; within < set; within++ {
				if impl.LeastWatchOk(net, set) && within&set == within && impl.WatchOk(net, within) {
					t.Fatal(net, set, within)
				}
			}
		}
	}
}

func TestP10Examples(t *testing.T) {
	star := starAt(6, 5)
	if !impl.LeastWatchOk(star, 32) || !impl.LeastWatchOk(star, 31) || impl.LeastWatchOk(star, 33) || impl.LeastWatchOk(star, 63) || impl.LeastWatchOk(star, 0) || impl.LeastWatchOk(star, 15) {
		t.Fatal("a star")
	}
	if impl.LeastWatchOk([]int{0}, 0) || !impl.LeastWatchOk([]int{0}, 1) {
		t.Fatal("one place")
	}
	if !impl.LeastWatchOk(make([]int, 6), 63) || impl.LeastWatchOk(make([]int, 6), 62) {
		t.Fatal("no wires")
	}
	if !impl.LeastWatchOk(allNeighbours(), 32) || impl.LeastWatchOk(allNeighbours(), 48) {
		t.Fatal("all are neighbours")
	}
	// The free places do not see the lone place 2.
	if !impl.LeastWatchOk(netOf(3, 0, 1), 5) || impl.WatchOk(netOf(3, 0, 1), 2) {
		t.Fatal("a lone place")
	}
}

func TestP10Invalid(t *testing.T) {
	for _, wrong := range wrongSets() {
		if impl.LeastWatchOk(wrong.net, wrong.set) {
			t.Fatal(wrong.net, wrong.set)
		}
	}
}

func TestP11Bounds(t *testing.T) {
	for _, net := range netsUpTo(impl.MaxPlaces) {
		fewest := impl.FewestWatch(net)
		greatest := 0
		for place := range net {
			greatest = max(greatest, size(impl.BallOf(net, place)))
		}
		if fewest < impl.PartMany(net) || fewest*greatest < len(net) {
			t.Fatal(net, fewest)
		}
		if impl.LoneOf(net) == 0 && fewest > len(net)/2 {
			t.Fatal(net, fewest)
		}
	}
}

func TestP11Fewest(t *testing.T) {
	for _, net := range netsUpTo(impl.MaxPlaces) {
		if impl.FewestWatch(net) != size(firstBySize(watchesTold(net))) {
			t.Fatal(net)
		}
	}
}

func TestP11Examples(t *testing.T) {
	if impl.FewestWatch([]int{0}) != 1 || impl.FewestWatch([]int{2, 1}) != 1 || impl.FewestWatch(make([]int, 6)) != 6 || impl.FewestWatch(allNeighbours()) != 1 {
		t.Fatal("none and all are neighbours")
	}
	if impl.FewestWatch(ringOfSix()) != 2 || impl.FewestWatch(starAt(6, 5)) != 1 || impl.FewestWatch(netOf(5, 0, 1, 1, 2, 2, 3, 3, 4)) != 2 {
		t.Fatal("a ring, a star and a way")
	}
	// Pairs take half of the places, and so does a triangle with a place at each corner.
	if impl.FewestWatch(netOf(6, 0, 5, 1, 4, 2, 3)) != 3 || impl.FewestWatch(netOf(6, 0, 1, 1, 2, 2, 0, 0, 3, 1, 4, 2, 5)) != 3 {
		t.Fatal("half of the places")
	}
	if impl.FewestWatch(netOf(3, 0, 1)) != 2 || impl.FewestWatch(netOf(6, 1, 4)) != 5 {
		t.Fatal("lone places")
	}
}

func TestP11Invalid(t *testing.T) {
	for _, list := range notNets() {
		if impl.FewestWatch(list) != -1 {
			t.Fatal(list)
		}
	}
}

func TestP12LeastWatch(t *testing.T) {
	for _, net := range netsUpTo(impl.MaxPlaces) {
		set := impl.WatchOf(net)
		lone := impl.LoneOf(net)
		if !impl.LeastWatchOk(net, set) || size(set) != impl.FewestWatch(net) || set&lone != lone {
			t.Fatal(net, set)
		}
	}
}

func TestP12LeastNumber(t *testing.T) {
	for _, net := range netsUpTo(impl.MaxPlaces) {
		if impl.WatchOf(net) != firstBySize(watchesTold(net)) {
			t.Fatal(net)
		}
	}
}

func TestP12Examples(t *testing.T) {
	if impl.WatchOf([]int{0}) != 1 || impl.WatchOf([]int{2, 1}) != 1 || impl.WatchOf(make([]int, 6)) != 63 || impl.WatchOf(allNeighbours()) != 1 {
		t.Fatal("none and all are neighbours")
	}
	// The leaves have the lesser number, 31, but they are more.
	if impl.WatchOf(starAt(6, 5)) != 32 || impl.WatchOf(starAt(6, 0)) != 1 {
		t.Fatal("stars")
	}
	if impl.WatchOf(ringOfSix()) != 9 || impl.WatchOf(netOf(5, 0, 1, 1, 2, 2, 3, 3, 4)) != 9 || impl.WatchOf(netOf(4, 0, 1, 1, 2, 2, 3)) != 5 {
		t.Fatal("a ring and ways")
	}
	if impl.WatchOf(netOf(3, 0, 1)) != 5 || impl.WatchOf(netOf(6, 1, 4)) != 47 {
		t.Fatal("lone places")
	}
}

func TestP12Invalid(t *testing.T) {
	for _, list := range notNets() {
		if impl.WatchOf(list) != -1 {
			t.Fatal(list)
		}
	}
}

func TestP13List(t *testing.T) {
	for _, net := range netsUpTo(impl.MaxPlaces) {
		list := impl.LeastWatches(net)
		for k, set := range list {
			if !impl.LeastWatchOk(net, set) || k > 0 && list[k-1] >= set {
				t.Fatal(net, list)
			}
		}
		if !sameList(list, leastSets(watchesTold(net))) {
			t.Fatal(net, list)
		}
	}
}

func TestP13LeastWithin(t *testing.T) {
	for _, net := range netsUpTo(impl.MaxPlaces) {
		list := impl.LeastWatches(net)
		for set := 0; set < 1<<len(net); set++ {
			some := false
			for _, least := range list {
				some = some || least&set == least
			}
			if impl.WatchOk(net, set) != some {
				t.Fatal(net, set)
			}
		}
	}
}

func TestP13Examples(t *testing.T) {
	if !sameList(impl.LeastWatches([]int{0}), []int{1}) || !sameList(impl.LeastWatches([]int{2, 1}), []int{1, 2}) {
		t.Fatal("one place and two")
	}
	if !sameList(impl.LeastWatches(make([]int, 6)), []int{63}) || !sameList(impl.LeastWatches(allNeighbours()), []int{1, 2, 4, 8, 16, 32}) {
		t.Fatal("none and all are neighbours")
	}
	if !sameList(impl.LeastWatches(starAt(6, 5)), []int{31, 32}) || !sameList(impl.LeastWatches(starAt(6, 0)), []int{1, 62}) {
		t.Fatal("stars")
	}
	// In the ring those are the opposite pairs, and every second place.
	if !sameList(impl.LeastWatches(ringOfSix()), []int{9, 18, 21, 36, 42}) {
		t.Fatal("a ring")
	}
	if !sameList(impl.LeastWatches(netOf(3, 0, 1)), []int{5, 6}) {
		t.Fatal("a lone place")
	}
}

func TestP13Invalid(t *testing.T) {
	for _, list := range notNets() {
		if len(impl.LeastWatches(list)) != 0 {
			t.Fatal(list)
		}
	}
}

func TestP14Counts(t *testing.T) {
	for _, net := range netsUpTo(impl.MaxPlaces) {
		counts := impl.WatchCounts(net)
		told := make([]int, len(net)+1)
		for set, good := range watchesTold(net) {
			if good {
				told[size(set)]++
			}
		}
		if !sameList(counts, told) {
			t.Fatal(net, counts)
		}
	}
}

func TestP14Odd(t *testing.T) {
	for _, net := range netsUpTo(impl.MaxPlaces) {
		counts := impl.WatchCounts(net)
		sum := 0
		first := -1
		for many, count := range counts {
			sum += count
			if count != 0 && first < 0 {
				first = many
			}
		}
		if sum%2 != 1 || first != impl.FewestWatch(net) || len(counts) != len(net)+1 || counts[len(net)] != 1 {
			t.Fatal(net, counts)
		}
	}
}

func TestP14Examples(t *testing.T) {
	if !sameList(impl.WatchCounts([]int{0}), []int{0, 1}) || !sameList(impl.WatchCounts([]int{2, 1}), []int{0, 2, 1}) {
		t.Fatal("one place and two")
	}
	if !sameList(impl.WatchCounts(make([]int, 6)), []int{0, 0, 0, 0, 0, 0, 1}) || !sameList(impl.WatchCounts(allNeighbours()), []int{0, 6, 15, 20, 15, 6, 1}) {
		t.Fatal("none and all are neighbours")
	}
	if !sameList(impl.WatchCounts(starAt(6, 0)), []int{0, 1, 5, 10, 10, 6, 1}) || !sameList(impl.WatchCounts(ringOfSix()), []int{0, 0, 3, 14, 15, 6, 1}) {
		t.Fatal("a star and a ring")
	}
	if !sameList(impl.WatchCounts(netOf(3, 0, 1)), []int{0, 0, 2, 1}) {
		t.Fatal("a lone place")
	}
}

func TestP14Invalid(t *testing.T) {
	for _, list := range notNets() {
		if len(impl.WatchCounts(list)) != 0 {
			t.Fatal(list)
		}
	}
}

func TestP15LeastWatchWithin(t *testing.T) {
	for _, net := range netsUpTo(impl.MaxPlaces) {
		fewest := impl.FewestWatch(net)
		for set, good := range watchesTold(net) {
			thin := impl.ThinnedWatch(net, set)
			if !good {
				if thin != -1 {
					t.Fatal(net, set, thin)
				}
				continue
			}
			if !impl.LeastWatchOk(net, thin) || thin&set != thin || impl.ThinnedWatch(net, thin) != thin || size(thin) < fewest {
				t.Fatal(net, set, thin)
			}
		}
	}
}

func TestP15GreatestGoFirst(t *testing.T) {
	for _, net := range netsUpTo(impl.MaxPlaces) {
		watches := watchesTold(net)
		for set := range watches {
			if thin := impl.ThinnedWatch(net, set); thin != leastWithin(watches, set) {
				t.Fatal(net, set, thin)
			}
		}
	}
}

func TestP15Examples(t *testing.T) {
	if impl.ThinnedWatch([]int{0}, 1) != 1 || impl.ThinnedWatch([]int{2, 1}, 3) != 1 || impl.ThinnedWatch([]int{2, 1}, 2) != 2 {
		t.Fatal("one place and two")
	}
	if impl.ThinnedWatch(make([]int, 6), 63) != 63 || impl.ThinnedWatch(allNeighbours(), 63) != 1 || impl.ThinnedWatch(allNeighbours(), 52) != 4 {
		t.Fatal("none and all are neighbours")
	}
	// The middle goes first where it has the greatest number, and last where it has the least.
	if impl.ThinnedWatch(starAt(6, 5), 63) != 31 || impl.ThinnedWatch(starAt(6, 5), 47) != 32 || impl.ThinnedWatch(starAt(6, 0), 63) != 1 || impl.ThinnedWatch(starAt(6, 0), 62) != 62 {
		t.Fatal("stars")
	}
	if impl.ThinnedWatch(ringOfSix(), 63) != 9 || impl.ThinnedWatch(ringOfSix(), 54) != 18 || impl.ThinnedWatch(ringOfSix(), 60) != 36 || impl.ThinnedWatch(ringOfSix(), 42) != 42 {
		t.Fatal("a ring")
	}
}

func TestP15NoWatch(t *testing.T) {
	for _, net := range [][]int{{0}, {2, 1}, make([]int, 6), allNeighbours(), ringOfSix(), netOf(3, 0, 1)} {
		if impl.ThinnedWatch(net, 0) != -1 {
			t.Fatal(net)
		}
	}
	if impl.ThinnedWatch(make([]int, 6), 31) != -1 || impl.ThinnedWatch(ringOfSix(), 7) != -1 || impl.ThinnedWatch(netOf(3, 0, 1), 3) != -1 {
		t.Fatal("sets that do not watch")
	}
}

func TestP15Invalid(t *testing.T) {
	for _, wrong := range wrongSets() {
		if impl.ThinnedWatch(wrong.net, wrong.set) != -1 {
			t.Fatal(wrong.net, wrong.set)
		}
	}
}

// askChapter2 calls each function of the chapter with a net and a set.
func askChapter2(net []int, set int) {
	impl.WatchOk(net, set)
	impl.LeastWatchOk(net, set)
	impl.FewestWatch(net)
	impl.WatchOf(net)
	impl.LeastWatches(net)
	impl.WatchCounts(net)
	impl.ThinnedWatch(net, set)
}

func TestChapter2WritesNothing(t *testing.T) {
	for _, list := range listsToLend() {
		lentList := lent(list)
		for _, set := range setsToAsk() {
			askChapter2(lentList, set)
		}
		if !untouched(lentList, list) {
			t.Fatal(list)
		}
	}
}

func TestChapter2AnswersAreNew(t *testing.T) {
	for _, net := range netsUpTo(5) {
		lentNet := lent(net)
		list := impl.LeastWatches(lentNet)
		counts := impl.WatchCounts(lentNet)
		wasList := append([]int{}, list...)
		wasCounts := append([]int{}, counts...)
		nextList := impl.LeastWatches(lentNet)
		nextCounts := impl.WatchCounts(lentNet)
		spoil(list)
		spoil(counts)
		if !untouched(lentNet, net) || !sameList(nextList, wasList) || !sameList(nextCounts, wasCounts) {
			t.Fatal(net)
		}
	}
}
