package tests

import (
	"testing"

	"loop.example/guardsonnets/impl"
)

// movedTold returns the set behind a move, or -1 if there is no such move.
func movedTold(net []int, set int, from int, to int) int {
	if !has(set, from) || has(set, to) || !near(net, from, to) {
		return -1
	}
	return set - 1<<from + 1<<to
}

// moveAnswers reports whether a guard can move to a place so that the set is a good one then.
func moveAnswers(net []int, good []bool, set int, place int) bool {
	for from := range net {
		if next := movedTold(net, set, from, place); next != -1 && good[next] {
			return true
		}
	}
	return false
}

// answersEach reports whether moveAnswers holds for each place without a guard.
func answersEach(net []int, good []bool, set int) bool {
	for place := range net {
		if !has(set, place) && !moveAnswers(net, good, set, place) {
			return false
		}
	}
	return true
}

// securesTold tells for each set of a net, by its number, whether it is secure.
func securesTold(net []int) []bool {
	watches := watchesTold(net)
	secures := make([]bool, len(watches))
	for set, watch := range watches {
		secures[set] = watch && answersEach(net, watches, set)
	}
	return secures
}

// helpTold reports whether one guard can come to a place so that all is watched then.
func helpTold(net []int, row []int, place int) bool {
	for from := range net {
		if !near(net, from, place) || row[from] == 0 {
			continue
		}
		next := append([]int{}, row...)
		next[from]--
		next[place]++
		if watchTold(net, placesOf(next, 1, 2)) {
			return true
		}
	}
	return false
}

// weakTold reports whether helpTold holds for each place without guards.
func weakTold(net []int, row []int) bool {
	for place := range net {
		if row[place] == 0 && !helpTold(net, row, place) {
			return false
		}
	}
	return true
}

// fewestWeakTold asks all rows with no guards, then with one, and so on.
func fewestWeakTold(net []int, rows [][]int) int {
	for guards := 0; ; guards++ {
		for _, row := range rows {
			if sumOf(row) == guards && weakTold(net, row) {
				return guards
			}
		}
	}
}

func TestP38Secure(t *testing.T) {
	for _, net := range netsUpTo(impl.MaxPlaces) {
		for set, told := range securesTold(net) {
			if impl.SecureOk(net, set) != told {
				t.Fatal(net, set)
			}
		}
	}
}

func TestP38MoreGuards(t *testing.T) {
	for _, net := range netsUpTo(impl.MaxPlaces) {
		for set := 0; set < 1<<len(net); set++ {
			if !impl.SecureOk(net, set) {
				continue
			}
			if !impl.WatchOk(net, set) {
				t.Fatal(net, set)
			}
			for place := range net {
				if !impl.SecureOk(net, set|1<<place) {
					t.Fatal(net, set, place)
				}
			}
		}
	}
}

// isMovedTo reports by GuardMoved and WatchOk whether a guard can move to a place.
func isMovedTo(net []int, set int, place int) bool {
	for from := range net {
		if impl.WatchOk(net, impl.GuardMoved(net, set, from, place)) {
			return true
		}
	}
	return false
}

func TestP38GuardsCanMove(t *testing.T) {
	for _, net := range manyNets() {
		for set := 0; set < 1<<len(net); set++ {
			each := impl.WatchOk(net, set)
			for place := range net {
				each = each && (has(set, place) || isMovedTo(net, set, place))
			}
			if impl.SecureOk(net, set) != each {
				t.Fatal(net, set)
			}
		}
	}
}

func TestP38Examples(t *testing.T) {
	for places := 1; places <= impl.MaxPlaces; places++ {
		for _, net := range [][]int{make([]int, places), fullNet(places), starAt(places, 0)} {
			if !impl.SecureOk(net, 1<<places-1) || impl.SecureOk(net, 0) {
				t.Fatal(net)
			}
		}
	}
	if !impl.SecureOk([]int{2, 1}, 1) || impl.SecureOk(make([]int, 6), 31) || !impl.SecureOk(allNeighbours(), 16) {
		t.Fatal("two places, none and all are neighbours")
	}
	// It watches, but each guard that leaves is missed.
	if impl.SecureOk(ringOfSix(), 9) || !impl.WatchOk(ringOfSix(), 9) || !impl.SecureOk(ringOfSix(), 21) || !impl.SecureOk(ringOfSix(), 11) {
		t.Fatal("a ring")
	}
	if impl.SecureOk(starAt(6, 5), 32) || impl.SecureOk(starAt(6, 5), 33) || !impl.SecureOk(starAt(6, 5), 31) || !impl.SecureOk(starAt(6, 5), 47) {
		t.Fatal("a star")
	}
	if !impl.SecureOk(threePairs(), 7) || impl.SecureOk(threePairs(), 33) || !impl.SecureOk(netOf(3, 0, 1), 5) || impl.SecureOk(netOf(3, 0, 1), 3) {
		t.Fatal("parts")
	}
}

func TestP38Invalid(t *testing.T) {
	for _, wrong := range wrongSets() {
		if impl.SecureOk(wrong.net, wrong.set) {
			t.Fatal(wrong.net, wrong.set)
		}
	}
}

func TestP39Fewest(t *testing.T) {
	for _, net := range netsUpTo(impl.MaxPlaces) {
		fewest := impl.FewestSecure(net)
		if fewest != fewestOf(securesTold(net)) || fewest < impl.FewestWatch(net) || (fewest == len(net)) != (impl.WiresOf(net) == 0) {
			t.Fatal(net, fewest)
		}
	}
}

func TestP39Examples(t *testing.T) {
	for places := 2; places <= impl.MaxPlaces; places++ {
		if impl.FewestSecure(make([]int, places)) != places || impl.FewestSecure(fullNet(places)) != 1 || impl.FewestSecure(starAt(places, places-1)) != places-1 {
			t.Fatal(places)
		}
	}
	if impl.FewestSecure([]int{0}) != 1 || impl.FewestSecure([]int{2, 1}) != 1 || impl.FewestSecure(ringOfSix()) != 3 || impl.FewestSecure(ringOfFour()) != 2 || impl.FewestSecure(wayOf(4)) != 2 || impl.FewestSecure(wayOf(5)) != 3 {
		t.Fatal("rings and ways")
	}
	if impl.FewestSecure(twoMiddles()) != 4 || impl.FewestSecure(threePairs()) != 3 || impl.FewestSecure(netOf(3, 0, 1)) != 2 || impl.FewestSecure(starAndTwo()) != 5 {
		t.Fatal("two middles and parts")
	}
}

func TestP39Invalid(t *testing.T) {
	for _, list := range notNets() {
		if impl.FewestSecure(list) != -1 {
			t.Fatal(list)
		}
	}
}

func TestP40Weak(t *testing.T) {
	rows := rowsUpTo(impl.MaxPlaces)
	for _, net := range manyNets() {
		for _, row := range rows[len(net)] {
			if impl.WeakOk(net, row) != weakTold(net, row) {
				t.Fatal(net, row)
			}
		}
	}
}

func TestP40RomanAndSecure(t *testing.T) {
	rows := rowsUpTo(impl.MaxPlaces)
	for _, net := range manyNets() {
		for _, row := range rows[len(net)] {
			weak := impl.WeakOk(net, row)
			guarded := placesOf(row, 1, 2)
			if weak && !impl.WatchOk(net, guarded) || impl.RomanOk(net, row) && !weak {
				t.Fatal(net, row)
			}
			if placesOf(row, 2, 2) == 0 && weak != impl.SecureOk(net, guarded) {
				t.Fatal(net, row)
			}
		}
	}
}

func TestP40Examples(t *testing.T) {
	for places := 1; places <= impl.MaxPlaces; places++ {
		for _, net := range [][]int{make([]int, places), fullNet(places), starAt(places, 0)} {
			if !impl.WeakOk(net, rowLike(places, 1)) || !impl.WeakOk(net, rowLike(places, 2)) || impl.WeakOk(net, rowLike(places, 0)) {
				t.Fatal(net)
			}
		}
	}
	if !impl.WeakOk([]int{2, 1}, []int{0, 1}) || impl.WeakOk(make([]int, 6), []int{2, 2, 2, 2, 2, 0}) || !impl.WeakOk(allNeighbours(), []int{0, 0, 0, 1, 0, 0}) {
		t.Fatal("two places, none and all are neighbours")
	}
	// One of two guards that leaves is not missed; the only one is.
	if !impl.WeakOk(starAt(6, 5), []int{0, 0, 0, 0, 0, 2}) || impl.WeakOk(starAt(6, 5), []int{0, 0, 0, 0, 0, 1}) || impl.WeakOk(starAt(6, 5), []int{2, 0, 0, 0, 0, 0}) || !impl.WeakOk(starAt(6, 5), []int{1, 1, 1, 1, 1, 0}) {
		t.Fatal("a star")
	}
	if !impl.WeakOk(ringOfSix(), []int{1, 0, 1, 0, 1, 0}) || impl.WeakOk(ringOfSix(), []int{1, 0, 0, 1, 0, 0}) || !impl.WeakOk(ringOfSix(), []int{2, 0, 0, 2, 0, 0}) || impl.WeakOk(ringOfSix(), []int{2, 0, 0, 1, 0, 0}) {
		t.Fatal("a ring")
	}
	if !impl.WeakOk(threePairs(), []int{1, 0, 2, 0, 1, 0}) || impl.WeakOk(threePairs(), []int{2, 0, 2, 0, 0, 0}) || impl.WeakOk(netOf(3, 0, 1), []int{2, 0, 0}) || !impl.WeakOk(netOf(3, 0, 1), []int{0, 1, 1}) {
		t.Fatal("parts")
	}
}

func TestP40Invalid(t *testing.T) {
	for _, wrong := range wrongRows() {
		if impl.WeakOk(wrong.net, wrong.row) {
			t.Fatal(wrong.net, wrong.row)
		}
	}
}

func TestP41Fewest(t *testing.T) {
	rows := rowsUpTo(impl.MaxPlaces)
	for _, net := range manyNets() {
		if fewest := impl.FewestWeak(net); fewest != fewestWeakTold(net, rows[len(net)]) {
			t.Fatal(net, fewest)
		}
	}
}

func TestP41Cheapest(t *testing.T) {
	for _, net := range netsUpTo(impl.MaxPlaces) {
		fewest := impl.FewestWeak(net)
		if fewest < impl.FewestWatch(net) || fewest > impl.FewestRoman(net) || fewest > impl.FewestSecure(net) {
			t.Fatal(net, fewest)
		}
	}
}

func TestP41Examples(t *testing.T) {
	for places := 3; places <= impl.MaxPlaces; places++ {
		if impl.FewestWeak(make([]int, places)) != places || impl.FewestWeak(fullNet(places)) != 1 || impl.FewestWeak(starAt(places, places-1)) != 2 {
			t.Fatal(places)
		}
	}
	if impl.FewestWeak([]int{0}) != 1 || impl.FewestWeak([]int{2, 1}) != 1 || impl.FewestWeak(ringOfSix()) != 3 || impl.FewestWeak(ringOfFour()) != 2 || impl.FewestWeak(wayOf(4)) != 2 || impl.FewestWeak(wayOf(5)) != 3 {
		t.Fatal("rings and ways")
	}
	if impl.FewestWeak(twoMiddles()) != 4 || impl.FewestWeak(threePairs()) != 3 || impl.FewestWeak(netOf(3, 0, 1)) != 2 || impl.FewestWeak(starAndTwo()) != 4 {
		t.Fatal("two middles and parts")
	}
	// Two guards at the middle of a star and one for a pair: neither Roman nor secure rows do with three.
	mixed := netOf(6, 0, 1, 0, 2, 0, 3, 4, 5)
	if impl.FewestWeak(mixed) != 3 || impl.FewestRoman(mixed) != 4 || impl.FewestSecure(mixed) != 4 {
		t.Fatal("a star and a pair")
	}
}

func TestP41Invalid(t *testing.T) {
	for _, list := range notNets() {
		if impl.FewestWeak(list) != -1 {
			t.Fatal(list)
		}
	}
}

func TestP79Moved(t *testing.T) {
	for _, net := range manyNets() {
		for set := 0; set < 1<<len(net); set++ {
			for from := range net {
				for to := range net {
					if next := impl.GuardMoved(net, set, from, to); next != movedTold(net, set, from, to) {
						t.Fatal(net, set, from, to, next)
					}
				}
			}
		}
	}
}

func TestP79Back(t *testing.T) {
	for _, net := range manyNets() {
		for set := 0; set < 1<<len(net); set++ {
			for from := range net {
				for to := range net {
					next := impl.GuardMoved(net, set, from, to)
					if next == -1 {
						continue
					}
					if size(next) != size(set) || has(next, from) || !has(next, to) || impl.GuardMoved(net, next, to, from) != set {
						t.Fatal(net, set, from, to, next)
					}
				}
			}
		}
	}
}

func TestP79Examples(t *testing.T) {
	if impl.GuardMoved([]int{2, 1}, 1, 0, 1) != 2 || impl.GuardMoved([]int{2, 1}, 2, 1, 0) != 1 || impl.GuardMoved(allNeighbours(), 7, 0, 5) != 38 || impl.GuardMoved(allNeighbours(), 62, 5, 0) != 31 {
		t.Fatal("two places, and all are neighbours")
	}
	if impl.GuardMoved(ringOfSix(), 9, 0, 5) != 40 || impl.GuardMoved(ringOfSix(), 9, 3, 2) != 5 || impl.GuardMoved(ringOfSix(), 9, 0, 2) != -1 || impl.GuardMoved(ringOfSix(), 9, 0, 3) != -1 {
		t.Fatal("a ring")
	}
	if impl.GuardMoved(threePairs(), 1, 0, 5) != 32 || impl.GuardMoved(threePairs(), 1, 0, 1) != -1 {
		t.Fatal("parts")
	}
}

func TestP79NoMove(t *testing.T) {
	if impl.GuardMoved([]int{2, 1}, 3, 0, 1) != -1 || impl.GuardMoved(ringOfSix(), 3, 0, 1) != -1 || impl.GuardMoved(allNeighbours(), 63, 0, 5) != -1 {
		t.Fatal("to a place with a guard")
	}
	if impl.GuardMoved([]int{2, 1}, 0, 0, 1) != -1 || impl.GuardMoved(ringOfSix(), 9, 1, 2) != -1 || impl.GuardMoved(ringOfSix(), 9, 1, 0) != -1 {
		t.Fatal("from a place without one")
	}
	for _, net := range [][]int{{0}, {2, 1}, make([]int, 6), ringOfSix(), allNeighbours()} {
		for set := 0; set < 1<<len(net); set++ {
			for place := range net {
				if impl.GuardMoved(net, set, place, place) != -1 {
					t.Fatal(net, set, place)
				}
			}
		}
	}
	for from := 0; from < 6; from++ {
		for to := 0; to < 6; to++ {
			if impl.GuardMoved(make([]int, 6), 1<<from, from, to) != -1 {
				t.Fatal("no wires", from, to)
			}
		}
	}
}

func TestP79Invalid(t *testing.T) {
	for _, wrong := range wrongSets() {
		for from := -1; from <= impl.MaxPlaces; from++ {
			for to := -1; to <= impl.MaxPlaces; to++ {
				if impl.GuardMoved(wrong.net, wrong.set, from, to) != -1 {
					t.Fatal(wrong.net, wrong.set, from, to)
				}
			}
		}
	}
}

func TestP79NotPlaces(t *testing.T) {
	for _, net := range append(netsUpTo(4), make([]int, 6), allNeighbours(), ringOfSix()) {
		for set := 0; set < 1<<len(net); set++ {
			for _, no := range notPlaces(len(net)) {
				for place := range net {
					if impl.GuardMoved(net, set, no, place) != -1 || impl.GuardMoved(net, set, place, no) != -1 || impl.GuardMoved(net, set, no, no) != -1 {
						t.Fatal(net, set, no, place)
					}
				}
			}
		}
	}
}

// askChapter8 calls each function of the chapter that takes a net and a set.
func askChapter8(net []int, set int) {
	for from := -1; from <= impl.MaxPlaces; from++ {
		impl.GuardMoved(net, set, from, 0)
		impl.GuardMoved(net, set, from, 1)
	}
	impl.SecureOk(net, set)
}

func TestChapter8WritesNothing(t *testing.T) {
	for _, list := range listsToLend() {
		lentList := lent(list)
		for _, set := range setsToAsk() {
			askChapter8(lentList, set)
		}
		impl.FewestSecure(lentList)
		impl.FewestWeak(lentList)
		if !untouched(lentList, list) {
			t.Fatal(list)
		}
	}
}

func TestChapter8WritesNoRow(t *testing.T) {
	rows := rowsToAsk()
	for _, list := range append(netsUpTo(3), ringOfFour(), starAt(5, 0), ringOfSix(), allNeighbours(), nil, []int{1}, make([]int, 7)) {
		lentList := lent(list)
		for _, row := range rows {
			lentRow := lent(row)
			impl.WeakOk(lentList, lentRow)
			if !untouched(lentList, list) || !untouched(lentRow, row) {
				t.Fatal(list, row)
			}
		}
	}
}
