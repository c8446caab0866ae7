package tests

import (
	"testing"

	"loop.example/guardsonnets/impl"
)

// guardsAt returns the guards of a set that see a place.
func guardsAt(net []int, set int, place int) int {
	return ballTold(net, place) & set
}

// privateTold asks each place whether the guard is the only one that sees it.
func privateTold(net []int, set int, guard int) int {
	private := 0
	for place := range net {
		if guardsAt(net, set, place) == 1<<guard {
			private += 1 << place
		}
	}
	return private
}

// twiceTold asks each place whether more than one guard sees it.
func twiceTold(net []int, set int) int {
	twice := 0
	for place := range net {
		if size(guardsAt(net, set, place)) > 1 {
			twice += 1 << place
		}
	}
	return twice
}

// needTold reports whether each guard of a set is the only one at some place.
func needTold(net []int, set int) bool {
	alone := 0
	for place := range net {
		if guards := guardsAt(net, set, place); size(guards) == 1 {
			alone |= guards
		}
	}
	return alone == set
}

// needsTold tells for each set of a net, by its number, whether it needs all guards.
func needsTold(net []int) []bool {
	needs := make([]bool, 1<<len(net))
	for set := range needs {
		needs[set] = needTold(net, set)
	}
	return needs
}

func TestP16PrivatePlaces(t *testing.T) {
	for _, net := range netsUpTo(impl.MaxPlaces) {
		for set := 0; set < 1<<len(net); set++ {
			for guard := range net {
				told := -1
				if has(set, guard) {
					told = privateTold(net, set, guard)
				}
				if private := impl.PrivateOf(net, set, guard); private != told {
					t.Fatal(net, set, guard, private)
				}
			}
		}
	}
}

func TestP16WithoutTheGuard(t *testing.T) {
	for _, net := range netsUpTo(impl.MaxPlaces) {
		for set := 0; set < 1<<len(net); set++ {
			seen := impl.SeenBy(net, set)
			for guard := range net {
				if !has(set, guard) {
					continue
				}
				private := impl.PrivateOf(net, set, guard)
				if private&^impl.BallOf(net, guard) != 0 || impl.SeenBy(net, set-1<<guard) != seen-private {
					t.Fatal(net, set, guard, private)
				}
			}
		}
	}
}

func TestP16Examples(t *testing.T) {
	if impl.PrivateOf([]int{0}, 1, 0) != 1 || impl.PrivateOf([]int{2, 1}, 1, 0) != 3 || impl.PrivateOf([]int{2, 1}, 3, 0) != 0 {
		t.Fatal("one place and two")
	}
	if impl.PrivateOf(make([]int, 6), 63, 5) != 32 || impl.PrivateOf(make([]int, 6), 32, 5) != 32 {
		t.Fatal("no wires")
	}
	if impl.PrivateOf(allNeighbours(), 1, 0) != 63 || impl.PrivateOf(allNeighbours(), 33, 5) != 0 || impl.PrivateOf(allNeighbours(), 63, 3) != 0 {
		t.Fatal("all are neighbours")
	}
	if impl.PrivateOf(ringOfSix(), 9, 0) != 35 || impl.PrivateOf(ringOfSix(), 21, 0) != 1 || impl.PrivateOf(ringOfSix(), 3, 0) != 32 || impl.PrivateOf(ringOfSix(), 7, 1) != 0 {
		t.Fatal("a ring")
	}
	// The middle has the free leaves for itself, and not its own place; the leaf has none.
	if impl.PrivateOf(starAt(6, 5), 33, 5) != 30 || impl.PrivateOf(starAt(6, 5), 33, 0) != 0 || impl.PrivateOf(starAt(6, 5), 31, 3) != 8 {
		t.Fatal("a star")
	}
	if impl.PrivateOf(netOf(3, 0, 1), 7, 2) != 4 || impl.PrivateOf(netOf(3, 0, 1), 7, 1) != 0 {
		t.Fatal("a lone place")
	}
}

func TestP16NotInTheSet(t *testing.T) {
	if impl.PrivateOf([]int{0}, 0, 0) != -1 || impl.PrivateOf(ringOfSix(), 9, 1) != -1 || impl.PrivateOf(make([]int, 6), 31, 5) != -1 || impl.PrivateOf(allNeighbours(), 0, 0) != -1 {
		t.Fatal("places without guards")
	}
	for _, net := range append(netsUpTo(4), make([]int, 6), allNeighbours(), ringOfSix()) {
		for set := 0; set < 1<<len(net); set++ {
			for _, guard := range notPlaces(len(net)) {
				if impl.PrivateOf(net, set, guard) != -1 {
					t.Fatal(net, set, guard)
				}
			}
		}
	}
}

func TestP16Invalid(t *testing.T) {
	for _, wrong := range wrongSets() {
		for _, guard := range append(notPlaces(len(wrong.net)), 0, 1, 2, 3, 4, 5, 6) {
			if impl.PrivateOf(wrong.net, wrong.set, guard) != -1 {
				t.Fatal(wrong.net, wrong.set, guard)
			}
		}
	}
}

func TestP17NeedsAll(t *testing.T) {
	for _, net := range netsUpTo(impl.MaxPlaces) {
		for set, told := range needsTold(net) {
			if impl.NeedsAllOk(net, set) != told {
				t.Fatal(net, set)
			}
		}
	}
}

func TestP17EachHasPrivatePlaces(t *testing.T) {
	for _, net := range netsUpTo(impl.MaxPlaces) {
		for set := 0; set < 1<<len(net); set++ {
			each := true
			for guard := range net {
				each = each && impl.PrivateOf(net, set, guard) != 0
			}
			if impl.NeedsAllOk(net, set) != each {
				t.Fatal(net, set)
			}
		}
	}
}

func TestP17SetsWithin(t *testing.T) {
	for _, net := range netsUpTo(impl.MaxPlaces) {
		for set := 0; set < 1<<len(net); set++ {
			for place := range net {
				if impl.NeedsAllOk(net, set) && has(set, place) && !impl.NeedsAllOk(net, set-1<<place) {
					t.Fatal(net, set, place)
				}
			}
		}
	}
}

func TestP17NoneAndOne(t *testing.T) {
	for _, net := range netsUpTo(impl.MaxPlaces) {
		if !impl.NeedsAllOk(net, 0) {
			t.Fatal(net)
		}
		for place := range net {
			if !impl.NeedsAllOk(net, 1<<place) {
				t.Fatal(net, place)
			}
		}
	}
}

func TestP17Examples(t *testing.T) {
	if !impl.NeedsAllOk(make([]int, 6), 63) || impl.NeedsAllOk(allNeighbours(), 3) || impl.NeedsAllOk(allNeighbours(), 63) || impl.NeedsAllOk([]int{2, 1}, 3) {
		t.Fatal("none and all are neighbours")
	}
	if !impl.NeedsAllOk(starAt(6, 5), 31) || impl.NeedsAllOk(starAt(6, 5), 33) || impl.NeedsAllOk(starAt(6, 5), 63) {
		t.Fatal("a star")
	}
	if !impl.NeedsAllOk(ringOfSix(), 3) || !impl.NeedsAllOk(ringOfSix(), 21) || impl.NeedsAllOk(ringOfSix(), 7) || impl.NeedsAllOk(ringOfSix(), 63) {
		t.Fatal("a ring")
	}
	if !impl.NeedsAllOk(netOf(3, 0, 1), 5) || impl.NeedsAllOk(netOf(3, 0, 1), 7) {
		t.Fatal("a lone place")
	}
}

func TestP17Invalid(t *testing.T) {
	for _, wrong := range wrongSets() {
		if impl.NeedsAllOk(wrong.net, wrong.set) {
			t.Fatal(wrong.net, wrong.set)
		}
	}
}

func TestP18Full(t *testing.T) {
	for _, net := range netsUpTo(impl.MaxPlaces) {
		for set, told := range lastsOf(needsTold(net)) {
			if impl.FullNeedsOk(net, set) != told {
				t.Fatal(net, set)
			}
		}
	}
}

func TestP18LeastWatches(t *testing.T) {
	for _, net := range netsUpTo(impl.MaxPlaces) {
		for set := 0; set < 1<<len(net); set++ {
			least := impl.LeastWatchOk(net, set)
			if least != (impl.WatchOk(net, set) && impl.NeedsAllOk(net, set)) || least && !impl.FullNeedsOk(net, set) {
				t.Fatal(net, set)
			}
		}
	}
}

func TestP18Examples(t *testing.T) {
	if impl.FullNeedsOk([]int{0}, 0) || !impl.FullNeedsOk([]int{0}, 1) || !impl.FullNeedsOk([]int{2, 1}, 2) || impl.FullNeedsOk([]int{2, 1}, 3) {
		t.Fatal("one place and two")
	}
	if !impl.FullNeedsOk(make([]int, 6), 63) || impl.FullNeedsOk(make([]int, 6), 62) || impl.FullNeedsOk(make([]int, 6), 31) || impl.FullNeedsOk(make([]int, 6), 0) {
		t.Fatal("no wires")
	}
	if !impl.FullNeedsOk(allNeighbours(), 32) || impl.FullNeedsOk(allNeighbours(), 0) || impl.FullNeedsOk(allNeighbours(), 3) || impl.FullNeedsOk(allNeighbours(), 63) {
		t.Fatal("all are neighbours")
	}
	// Two neighbours in the ring are full, but do not watch it.
	if !impl.FullNeedsOk(ringOfSix(), 3) || impl.WatchOk(ringOfSix(), 3) || !impl.FullNeedsOk(ringOfSix(), 21) || impl.FullNeedsOk(ringOfSix(), 5) || impl.FullNeedsOk(ringOfSix(), 63) {
		t.Fatal("a ring")
	}
	if !impl.FullNeedsOk(netOf(3, 0, 1), 5) || impl.FullNeedsOk(netOf(3, 0, 1), 1) || impl.FullNeedsOk(netOf(3, 0, 1), 4) {
		t.Fatal("a lone place")
	}
}

func TestP18Invalid(t *testing.T) {
	for _, wrong := range wrongSets() {
		if impl.FullNeedsOk(wrong.net, wrong.set) {
			t.Fatal(wrong.net, wrong.set)
		}
	}
}

func TestP19SeenTwice(t *testing.T) {
	for _, net := range netsUpTo(impl.MaxPlaces) {
		for set := 0; set < 1<<len(net); set++ {
			if twice := impl.SeenTwice(net, set); twice != twiceTold(net, set) {
				t.Fatal(net, set, twice)
			}
		}
	}
}

func TestP19PrivateOrTwice(t *testing.T) {
	for _, net := range netsUpTo(impl.MaxPlaces) {
		for set := 0; set < 1<<len(net); set++ {
			private := 0
			for guard := range net {
				if has(set, guard) {
					private |= impl.PrivateOf(net, set, guard)
				}
			}
			twice := impl.SeenTwice(net, set)
			if private&twice != 0 || private|twice != impl.SeenBy(net, set) {
				t.Fatal(net, set, private, twice)
			}
		}
	}
}

func TestP19Examples(t *testing.T) {
	if impl.SeenTwice([]int{0}, 0) != 0 || impl.SeenTwice([]int{0}, 1) != 0 || impl.SeenTwice([]int{2, 1}, 1) != 0 || impl.SeenTwice([]int{2, 1}, 3) != 3 {
		t.Fatal("one place and two")
	}
	if impl.SeenTwice(make([]int, 6), 63) != 0 || impl.SeenTwice(allNeighbours(), 0) != 0 || impl.SeenTwice(allNeighbours(), 32) != 0 {
		t.Fatal("none twice")
	}
	// Places that three guards see, or four, are seen twice as well.
	if impl.SeenTwice(allNeighbours(), 3) != 63 || impl.SeenTwice(allNeighbours(), 7) != 63 || impl.SeenTwice(allNeighbours(), 15) != 63 || impl.SeenTwice(ringOfSix(), 63) != 63 {
		t.Fatal("all twice")
	}
	if impl.SeenTwice(ringOfSix(), 9) != 0 || impl.SeenTwice(ringOfSix(), 21) != 42 || impl.SeenTwice(starAt(6, 5), 31) != 32 || impl.SeenTwice(starAt(6, 5), 33) != 33 {
		t.Fatal("a ring and a star")
	}
	if impl.SeenTwice(netOf(3, 0, 1), 7) != 3 {
		t.Fatal("a lone place")
	}
}

func TestP19Invalid(t *testing.T) {
	for _, wrong := range wrongSets() {
		if impl.SeenTwice(wrong.net, wrong.set) != -1 {
			t.Fatal(wrong.net, wrong.set)
		}
	}
}

// askChapter3 calls each function of the chapter with a net, a set and some guards.
func askChapter3(net []int, set int) {
	for guard := -1; guard <= impl.MaxPlaces; guard++ {
		impl.PrivateOf(net, set, guard)
	}
	impl.NeedsAllOk(net, set)
	impl.FullNeedsOk(net, set)
	impl.SeenTwice(net, set)
}

func TestChapter3WritesNothing(t *testing.T) {
	for _, list := range listsToLend() {
		lentList := lent(list)
		for _, set := range setsToAsk() {
			askChapter3(lentList, set)
		}
		if !untouched(lentList, list) {
			t.Fatal(list)
		}
	}
}
