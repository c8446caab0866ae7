package tests

import (
	"testing"

	"loop.example/guardsonnets/impl"
)

// turnedTold makes a net of all pairs that are wires, but for one pair: this is one if it was none before.
func turnedTold(net []int, a int, b int) []int {
	ends := []int{}
	for d := range net {
		for c := 0; c < d; c++ {
			same := c == a && d == b || c == b && d == a
			if near(net, c, d) != same {
				ends = append(ends, c, d)
			}
		}
	}
	return netOf(len(net), ends...)
}

// watchNumbers returns FewestWatch of each net of as many places, by its number.
func watchNumbers(places int) []int {
	numbers := make([]int, 1<<pairsOf(places))
	for number := range numbers {
		numbers[number] = fewestOf(watchesTold(numberedNet(places, number)))
	}
	return numbers
}

// cutsTill returns for each net of as many places how many wires must be cut till it takes as many
// guards as are told: no wire if it does, or one more than of the best net with one wire less.
func cutsTill(watch []int, guards int) []int {
	cuts := make([]int, len(watch))
	for number := range cuts {
		if watch[number] >= guards {
			continue
		}
		cuts[number] = 100
		for bit := 1; bit < len(watch); bit *= 2 {
			if number&bit != 0 {
				cuts[number] = min(cuts[number], cuts[number-bit]+1)
			}
		}
	}
	return cuts
}

// joinsTill is like cutsTill, for as many guards that are enough.
func joinsTill(watch []int, guards int) []int {
	joins := make([]int, len(watch))
	for number := len(joins) - 1; number >= 0; number-- {
		if watch[number] <= guards {
			continue
		}
		joins[number] = 100
		for bit := 1; bit < len(watch); bit *= 2 {
			if number&bit == 0 {
				joins[number] = min(joins[number], joins[number+bit]+1)
			}
		}
	}
	return joins
}

// fewestCutsTold returns the number of wires to be cut of each net of as many places, or -1 where no
// cuts are enough.
func fewestCutsTold(places int) []int {
	watch := watchNumbers(places)
	told := make([]int, len(watch))
	for guards := 1; guards <= places; guards++ {
		cuts := cutsTill(watch, guards+1)
		for number := range told {
			if watch[number] == guards {
				told[number] = cuts[number]
			}
		}
	}
	return noneFor100(told)
}

// fewestJoinsTold returns the number of wires to be joined of each net of as many places, or -1.
func fewestJoinsTold(places int) []int {
	watch := watchNumbers(places)
	told := make([]int, len(watch))
	for guards := 1; guards <= places; guards++ {
		joins := joinsTill(watch, guards-1)
		for number := range told {
			if watch[number] == guards {
				told[number] = joins[number]
			}
		}
	}
	return noneFor100(told)
}

func noneFor100(numbers []int) []int {
	none := []int{}
	for _, number := range numbers {
		if number >= 100 {
			number = -1
		}
		none = append(none, number)
	}
	return none
}

// seenMostTold returns the greatest number of places that are seen by sets of as many places as are told.
func seenMostTold(net []int, guards int) int {
	most := 0
	for set := 0; set < 1<<len(net); set++ {
		if size(set) == min(guards, len(net)) {
			most = max(most, size(seenTold(net, set)))
		}
	}
	return most
}

func TestP64Cut(t *testing.T) {
	for _, net := range netsUpTo(impl.MaxPlaces) {
		for a := range net {
			for b := range net {
				cut := impl.WireCut(net, a, b)
				told := []int{}
				if near(net, a, b) {
					told = turnedTold(net, a, b)
				}
				if !sameList(cut, told) {
					t.Fatal(net, a, b, cut)
				}
			}
		}
	}
}

func TestP64OneGuardAtMost(t *testing.T) {
	for _, net := range manyNets() {
		fewest := impl.FewestWatch(net)
		for a := range net {
			for b := range net {
				if !near(net, a, b) {
					continue
				}
				cut := impl.WireCut(net, a, b)
				more := impl.FewestWatch(cut) - fewest
				if impl.WiresOf(cut) != impl.WiresOf(net)-1 || !sameList(impl.WireJoined(cut, a, b), net) || !sameList(impl.WireJoined(cut, b, a), net) || more != 0 && more != 1 {
					t.Fatal(net, a, b, cut)
				}
			}
		}
	}
}

func TestP64Examples(t *testing.T) {
	if !sameList(impl.WireCut([]int{2, 1}, 0, 1), []int{0, 0}) || !sameList(impl.WireCut([]int{2, 1}, 1, 0), []int{0, 0}) || !sameList(impl.WireCut(wayOf(4), 1, 2), []int{2, 1, 8, 4}) || !sameList(impl.WireCut(wayOf(4), 2, 1), []int{2, 1, 8, 4}) {
		t.Fatal("ways")
	}
	if !sameList(impl.WireCut(allNeighbours(), 5, 0), []int{30, 61, 59, 55, 47, 30}) || !sameList(impl.WireCut(ringOfSix(), 0, 5), wayOf(6)) || !sameList(impl.WireCut(starAt(3, 2), 0, 2), []int{0, 4, 2}) || !sameList(impl.WireCut(threePairs(), 4, 1), []int{32, 0, 8, 4, 0, 1}) {
		t.Fatal("all are neighbours, a ring, a star and pairs")
	}
	// These are no wires.
	if len(impl.WireCut(wayOf(4), 0, 2)) != 0 || len(impl.WireCut(wayOf(4), 3, 0)) != 0 || len(impl.WireCut([]int{0}, 0, 0)) != 0 || len(impl.WireCut(make([]int, 6), 0, 5)) != 0 || len(impl.WireCut(allNeighbours(), 3, 3)) != 0 || len(impl.WireCut(threePairs(), 0, 1)) != 0 {
		t.Fatal("no wires")
	}
}

func TestP64Invalid(t *testing.T) {
	for _, list := range notNets() {
		for a := -1; a <= impl.MaxPlaces; a++ {
			for b := -1; b <= impl.MaxPlaces; b++ {
				if len(impl.WireCut(list, a, b)) != 0 {
					t.Fatal(list, a, b)
				}
			}
		}
	}
	for _, net := range append(netsUpTo(4), make([]int, 6), allNeighbours(), ringOfSix()) {
		for _, no := range notPlaces(len(net)) {
			for place := range net {
				if len(impl.WireCut(net, no, place)) != 0 || len(impl.WireCut(net, place, no)) != 0 || len(impl.WireCut(net, no, no)) != 0 {
					t.Fatal(net, no, place)
				}
			}
		}
	}
}

func TestP65Joined(t *testing.T) {
	for _, net := range netsUpTo(impl.MaxPlaces) {
		for a := range net {
			for b := range net {
				joined := impl.WireJoined(net, a, b)
				told := []int{}
				if a != b && !near(net, a, b) {
					told = turnedTold(net, a, b)
				}
				if !sameList(joined, told) {
					t.Fatal(net, a, b, joined)
				}
			}
		}
	}
}

func TestP65OneGuardAtMost(t *testing.T) {
	for _, net := range manyNets() {
		fewest := impl.FewestWatch(net)
		apart := impl.MostApart(net)
		for a := range net {
			for b := range net {
				if a == b || near(net, a, b) {
					continue
				}
				joined := impl.WireJoined(net, a, b)
				if impl.WiresOf(joined) != impl.WiresOf(net)+1 || !sameList(impl.WireCut(joined, a, b), net) || !sameList(impl.WireCut(joined, b, a), net) {
					t.Fatal(net, a, b, joined)
				}
				less := fewest - impl.FewestWatch(joined)
				lessApart := apart - impl.MostApart(joined)
				if less != 0 && less != 1 || lessApart != 0 && lessApart != 1 {
					t.Fatal(net, a, b, joined)
				}
			}
		}
	}
}

func TestP65Examples(t *testing.T) {
	if !sameList(impl.WireJoined([]int{0, 0}, 0, 1), []int{2, 1}) || !sameList(impl.WireJoined([]int{0, 0}, 1, 0), []int{2, 1}) || !sameList(impl.WireJoined(wayOf(4), 3, 0), []int{10, 5, 10, 5}) || !sameList(impl.WireJoined(wayOf(4), 0, 2), []int{6, 5, 11, 4}) {
		t.Fatal("ways")
	}
	if !sameList(impl.WireJoined(make([]int, 6), 5, 2), []int{0, 0, 32, 0, 0, 4}) || !sameList(impl.WireJoined(wayOf(6), 5, 0), ringOfSix()) || !sameList(impl.WireJoined(threePairs(), 0, 1), []int{34, 17, 8, 4, 2, 1}) {
		t.Fatal("no wires, a ring and pairs")
	}
	// These are wires, or one place.
	if len(impl.WireJoined(wayOf(4), 0, 1)) != 0 || len(impl.WireJoined(wayOf(4), 3, 2)) != 0 || len(impl.WireJoined([]int{0}, 0, 0)) != 0 || len(impl.WireJoined(make([]int, 6), 4, 4)) != 0 || len(impl.WireJoined(allNeighbours(), 0, 5)) != 0 || len(impl.WireJoined(threePairs(), 5, 0)) != 0 {
		t.Fatal("wires")
	}
}

func TestP65Invalid(t *testing.T) {
	for _, list := range notNets() {
		for a := -1; a <= impl.MaxPlaces; a++ {
			for b := -1; b <= impl.MaxPlaces; b++ {
				if len(impl.WireJoined(list, a, b)) != 0 {
					t.Fatal(list, a, b)
				}
			}
		}
	}
	for _, net := range append(netsUpTo(4), make([]int, 6), allNeighbours(), ringOfSix()) {
		for _, no := range notPlaces(len(net)) {
			for place := range net {
				if len(impl.WireJoined(net, no, place)) != 0 || len(impl.WireJoined(net, place, no)) != 0 || len(impl.WireJoined(net, no, no)) != 0 {
					t.Fatal(net, no, place)
				}
			}
		}
	}
}

func TestP66Fewest(t *testing.T) {
	for places := 1; places <= impl.MaxPlaces; places++ {
		for number, told := range fewestCutsTold(places) {
			net := numberedNet(places, number)
			if cuts := impl.FewestCuts(net); cuts != told {
				t.Fatal(net, cuts, told)
			}
		}
	}
}

func TestP66Bounds(t *testing.T) {
	for _, net := range manyNets() {
		cuts := impl.FewestCuts(net)
		if (cuts == -1) != (impl.WiresOf(net) == 0) || cuts == 0 || cuts > 2 && impl.ForestOk(net) {
			t.Fatal(net, cuts)
		}
		for b := range net {
			for a := 0; a < b; a++ {
				if near(net, a, b) && cuts > size(net[a])+size(net[b])-1 {
					t.Fatal(net, a, b, cuts)
				}
			}
		}
	}
}

func TestP66Examples(t *testing.T) {
	for places := 2; places <= impl.MaxPlaces; places++ {
		if impl.FewestCuts(make([]int, places)) != -1 || impl.FewestCuts(starAt(places, 0)) != 1 || impl.FewestCuts(fullNet(places)) != (places+1)/2 {
			t.Fatal(places)
		}
	}
	if impl.FewestCuts([]int{0}) != -1 || impl.FewestCuts(wayOf(3)) != 1 || impl.FewestCuts(wayOf(4)) != 2 || impl.FewestCuts(wayOf(5)) != 1 || impl.FewestCuts(wayOf(6)) != 1 {
		t.Fatal("ways")
	}
	if impl.FewestCuts(ringOfFour()) != 3 || impl.FewestCuts(ringOfFive()) != 2 || impl.FewestCuts(ringOfSix()) != 2 || impl.FewestCuts(threePairs()) != 1 || impl.FewestCuts(starAndTwo()) != 1 || impl.FewestCuts(netOf(3, 0, 1)) != 1 {
		t.Fatal("rings and parts")
	}
}

func TestP66Invalid(t *testing.T) {
	for _, list := range notNets() {
		if impl.FewestCuts(list) != -1 {
			t.Fatal(list)
		}
	}
}

func TestP67Fewest(t *testing.T) {
	for places := 1; places <= impl.MaxPlaces; places++ {
		for number, told := range fewestJoinsTold(places) {
			net := numberedNet(places, number)
			if joins := impl.FewestJoins(net); joins != told {
				t.Fatal(net, joins, told)
			}
		}
	}
}

func TestP67NearlyAll(t *testing.T) {
	for _, net := range netsUpTo(impl.MaxPlaces) {
		joins := impl.FewestJoins(net)
		watch := impl.FewestWatch(net)
		if (joins == -1) != (watch == 1) || watch > 1 && joins != len(net)-impl.SeenMost(net, watch-1) {
			t.Fatal(net, joins)
		}
	}
}

func TestP67Examples(t *testing.T) {
	for places := 2; places <= impl.MaxPlaces; places++ {
		if impl.FewestJoins(make([]int, places)) != 1 || impl.FewestJoins(fullNet(places)) != -1 || impl.FewestJoins(starAt(places, 0)) != -1 {
			t.Fatal(places)
		}
	}
	if impl.FewestJoins([]int{0}) != -1 || impl.FewestJoins(wayOf(4)) != 1 || impl.FewestJoins(wayOf(5)) != 2 || impl.FewestJoins(wayOf(6)) != 3 || impl.FewestJoins(ringOfSix()) != 3 || impl.FewestJoins(ringOfFive()) != 2 || impl.FewestJoins(ringOfFour()) != 1 {
		t.Fatal("ways and rings")
	}
	if impl.FewestJoins(threePairs()) != 2 || impl.FewestJoins(prismOfSix()) != 2 || impl.FewestJoins(starAndTwo()) != 1 || impl.FewestJoins(netOf(3, 0, 1)) != 1 || impl.FewestJoins(twoAndFour()) != 1 {
		t.Fatal("parts")
	}
}

func TestP67Invalid(t *testing.T) {
	for _, list := range notNets() {
		if impl.FewestJoins(list) != -1 {
			t.Fatal(list)
		}
	}
}

func TestP96Most(t *testing.T) {
	for _, net := range manyNets() {
		for _, guards := range []int{0, 1, 2, 3, 4, 5, 6, 7, 8, 63, 64, 65, 1 << 32, mostInt} {
			if most := impl.SeenMost(net, guards); most != seenMostTold(net, guards) {
				t.Fatal(net, guards, most)
			}
		}
	}
}

func TestP96MoreSeeMore(t *testing.T) {
	for _, net := range netsUpTo(impl.MaxPlaces) {
		ahead := 0
		watch := impl.FewestWatch(net)
		for guards := 0; guards <= len(net)+1; guards++ {
			most := impl.SeenMost(net, guards)
			if most < ahead || most < min(guards, len(net)) || (most == len(net)) != (guards >= watch) {
				t.Fatal(net, guards, most)
			}
			ahead = most
		}
	}
}

func TestP96Examples(t *testing.T) {
	for places := 1; places <= impl.MaxPlaces; places++ {
		for guards := 0; guards <= places+2; guards++ {
			if impl.SeenMost(make([]int, places), guards) != min(guards, places) || impl.SeenMost(fullNet(places), guards) != min(places, guards*places) {
				t.Fatal(places, guards)
			}
		}
	}
	if impl.SeenMost(ringOfSix(), 0) != 0 || impl.SeenMost(ringOfSix(), 1) != 3 || impl.SeenMost(ringOfSix(), 2) != 6 || impl.SeenMost(wayOf(5), 1) != 3 || impl.SeenMost(wayOf(5), 2) != 5 {
		t.Fatal("a ring and a way")
	}
	if impl.SeenMost(threePairs(), 1) != 2 || impl.SeenMost(threePairs(), 2) != 4 || impl.SeenMost(threePairs(), 3) != 6 || impl.SeenMost(starAndTwo(), 1) != 4 || impl.SeenMost(starAndTwo(), 2) != 5 || impl.SeenMost(starAndTwo(), 4) != 6 {
		t.Fatal("parts")
	}
}

func TestP96Invalid(t *testing.T) {
	for _, list := range notNets() {
		for guards := -1; guards <= 7; guards++ {
			if impl.SeenMost(list, guards) != -1 {
				t.Fatal(list, guards)
			}
		}
	}
	for _, net := range append(netsUpTo(4), make([]int, 6), allNeighbours(), ringOfSix()) {
		for _, guards := range []int{-1, -2, -63, -64, -1 << 32, leastInt} {
			if impl.SeenMost(net, guards) != -1 {
				t.Fatal(net, guards)
			}
		}
	}
}

func TestChapter16WritesNothing(t *testing.T) {
	for _, list := range append(fewNets(), notNets()...) {
		lentList := lent(list)
		impl.FewestCuts(lentList)
		impl.FewestJoins(lentList)
		for a := -1; a <= impl.MaxPlaces; a++ {
			impl.SeenMost(lentList, a)
			for b := -1; b <= impl.MaxPlaces; b++ {
				impl.WireCut(lentList, a, b)
				impl.WireJoined(lentList, a, b)
			}
		}
		if !untouched(lentList, list) {
			t.Fatal(list)
		}
	}
}

func TestChapter16AnswersAreNew(t *testing.T) {
	for _, net := range fewNets() {
		if len(net) == 1 {
			continue
		}
		lentNet := lent(net)
		cut := impl.WireCut(lentNet, 0, 1)
		joined := impl.WireJoined(lentNet, 0, 1)
		was := append(append([]int{}, cut...), joined...)
		spoil(cut)
		spoil(joined)
		now := append(impl.WireCut(lentNet, 0, 1), impl.WireJoined(lentNet, 0, 1)...)
		if !untouched(lentNet, net) || !sameList(now, was) {
			t.Fatal(net)
		}
	}
}
