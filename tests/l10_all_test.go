package tests

import (
	"testing"

	"loop.example/guardsonnets/impl"
)

// stepTold tries all ways in which guards can take new places, the guard at the least place first.
func stepTold(net []int, from int, to int) bool {
	for guard := range net {
		if !has(from, guard) {
			continue
		}
		for place := range net {
			if has(to, place) && (place == guard || near(net, guard, place)) && stepTold(net, from-1<<guard, to-1<<place) {
				return true
			}
		}
		return false
	}
	return to == 0
}

// stepsTold lists for each set of a net the sets that are one step of all guards away.
func stepsTold(net []int) [][]int {
	steps := make([][]int, 1<<len(net))
	for from := range steps {
		for to := range steps {
			if size(from) == size(to) && stepTold(net, from, to) {
				steps[from] = append(steps[from], to)
			}
		}
	}
	return steps
}

// leastStep returns the first good set of a list that has a place, or -1.
func leastStep(good []bool, list []int, place int) int {
	for _, set := range list {
		if good[set] && has(set, place) {
			return set
		}
	}
	return -1
}

// allMovingTold tells for each set of a net whether it can answer as many requests as one likes if
// all guards move: one more than before, till just as many sets can answer one more.
func allMovingTold(net []int, steps [][]int) []bool {
	before := allGood(net)
	for {
		next := make([]bool, len(before))
		for set := range next {
			next[set] = true
			for place := range net {
				next[set] = next[set] && (has(set, place) || leastStep(before, steps[set], place) != -1)
			}
		}
		if sameFlags(next, before) {
			return before
		}
		before = next
	}
}

func TestP45Eternal(t *testing.T) {
	for _, net := range fewNets() {
		for set, told := range allMovingTold(net, stepsTold(net)) {
			if impl.AllEternalOk(net, set) != told {
				t.Fatal(net, set)
			}
		}
	}
}

func TestP45Easier(t *testing.T) {
	for _, net := range fewNets() {
		for set := 0; set < 1<<len(net); set++ {
			eternal := impl.AllEternalOk(net, set)
			if impl.EternalOk(net, set) && !eternal || eternal && !impl.WatchOk(net, set) {
				t.Fatal(net, set)
			}
		}
	}
}

func TestP45EachPlaceIsAnswered(t *testing.T) {
	for _, net := range append(netsUpTo(4), shapesOf(5)...) {
		for set := 0; set < 1<<len(net); set++ {
			for place := range net {
				if impl.AllEternalOk(net, set) && !has(set, place) && !impl.AllEternalOk(net, impl.AllAnswerOf(net, set, place)) {
					t.Fatal(net, set, place)
				}
			}
		}
	}
}

func TestP45Examples(t *testing.T) {
	for places := 1; places <= impl.MaxPlaces; places++ {
		for _, net := range [][]int{make([]int, places), fullNet(places), starAt(places, 0)} {
			if !impl.AllEternalOk(net, 1<<places-1) || impl.AllEternalOk(net, 0) {
				t.Fatal(net)
			}
		}
	}
	if !impl.AllEternalOk([]int{2, 1}, 1) || impl.AllEternalOk(make([]int, 6), 31) || !impl.AllEternalOk(allNeighbours(), 8) {
		t.Fatal("two places, none and all are neighbours")
	}
	// Two go round the ring together, where one guard that moves is missed.
	if !impl.AllEternalOk(ringOfSix(), 9) || impl.EternalOk(ringOfSix(), 9) || impl.AllEternalOk(ringOfSix(), 5) || impl.AllEternalOk(ringOfSix(), 7) {
		t.Fatal("a ring")
	}
	if !impl.AllEternalOk(starAt(6, 5), 33) || impl.AllEternalOk(starAt(6, 5), 32) || impl.AllEternalOk(starAt(6, 5), 3) || !impl.AllEternalOk(starAt(6, 5), 31) {
		t.Fatal("a star")
	}
	if !impl.AllEternalOk(twoAndFour(), 3) || !impl.AllEternalOk(twoAndFour(), 5) || impl.AllEternalOk(twoAndFour(), 12) {
		t.Fatal("two and four")
	}
	if !impl.AllEternalOk(threePairs(), 7) || impl.AllEternalOk(threePairs(), 33) || !impl.AllEternalOk(starAndTwo(), 51) || impl.AllEternalOk(starAndTwo(), 49) || impl.AllEternalOk(netOf(3, 0, 1), 3) {
		t.Fatal("parts")
	}
}

func TestP45Invalid(t *testing.T) {
	for _, wrong := range wrongSets() {
		if impl.AllEternalOk(wrong.net, wrong.set) {
			t.Fatal(wrong.net, wrong.set)
		}
	}
}

func TestP46Fewest(t *testing.T) {
	for _, net := range manyNets() {
		if fewest := impl.FewestAllEternal(net); fewest != fewestOf(allMovingTold(net, stepsTold(net))) {
			t.Fatal(net, fewest)
		}
	}
}

func TestP46NoMoreThanApart(t *testing.T) {
	for _, net := range netsUpTo(impl.MaxPlaces) {
		fewest := impl.FewestAllEternal(net)
		if fewest < impl.FewestWatch(net) || fewest > impl.MostApart(net) {
			t.Fatal(net, fewest)
		}
		if impl.PartMany(net) == 1 && fewest > impl.FewestJoined(net)+1 {
			t.Fatal(net, fewest)
		}
	}
}

func TestP46Examples(t *testing.T) {
	for places := 3; places <= impl.MaxPlaces; places++ {
		if impl.FewestAllEternal(make([]int, places)) != places || impl.FewestAllEternal(fullNet(places)) != 1 || impl.FewestAllEternal(starAt(places, places-1)) != 2 {
			t.Fatal(places)
		}
	}
	if impl.FewestAllEternal([]int{0}) != 1 || impl.FewestAllEternal([]int{2, 1}) != 1 || impl.FewestAllEternal(ringOfSix()) != 2 || impl.FewestAllEternal(ringOfFour()) != 2 || impl.FewestAllEternal(prismOfSix()) != 2 {
		t.Fatal("rings")
	}
	if impl.FewestAllEternal(wayOf(4)) != 2 || impl.FewestAllEternal(wayOf(5)) != 3 || impl.FewestAllEternal(wayOf(6)) != 3 || impl.FewestAllEternal(twoMiddles()) != 3 || impl.FewestAllEternal(twoAndFour()) != 2 {
		t.Fatal("ways, two middles, two and four")
	}
	if impl.FewestAllEternal(threePairs()) != 3 || impl.FewestAllEternal(netOf(3, 0, 1)) != 2 || impl.FewestAllEternal(starAndTwo()) != 4 {
		t.Fatal("parts")
	}
}

func TestP46Invalid(t *testing.T) {
	for _, list := range notNets() {
		if impl.FewestAllEternal(list) != -1 {
			t.Fatal(list)
		}
	}
}

func TestP82Steps(t *testing.T) {
	for _, net := range manyNets() {
		for from, list := range stepsTold(net) {
			at := 0
			for to := 0; to < 1<<len(net); to++ {
				told := at < len(list) && list[at] == to
				if impl.AllMoveOk(net, from, to) != told {
					t.Fatal(net, from, to)
				}
				if told {
					at++
				}
			}
		}
	}
}

func TestP82BothWays(t *testing.T) {
	for _, net := range manyNets() {
		for from := 0; from < 1<<len(net); from++ {
			for to := 0; to <= from; to++ {
				leads := impl.AllMoveOk(net, from, to)
				if leads != impl.AllMoveOk(net, to, from) || from == to && !leads {
					t.Fatal(net, from, to)
				}
				if leads && (to&^impl.SeenBy(net, from) != 0 || from&^impl.SeenBy(net, to) != 0) {
					t.Fatal(net, from, to)
				}
			}
		}
	}
}

func TestP82OneGuardMoves(t *testing.T) {
	for _, net := range manyNets() {
		for set := 0; set < 1<<len(net); set++ {
			for from := range net {
				for to := range net {
					next := impl.GuardMoved(net, set, from, to)
					if next != -1 && (!impl.AllMoveOk(net, set, next) || !impl.AllMoveOk(net, next, set)) {
						t.Fatal(net, set, next)
					}
				}
			}
		}
	}
}

func TestP82Examples(t *testing.T) {
	for places := 1; places <= impl.MaxPlaces; places++ {
		all := 1<<places - 1
		if !impl.AllMoveOk(make([]int, places), all, all) || !impl.AllMoveOk(fullNet(places), all, all) || !impl.AllMoveOk(make([]int, places), 0, 0) || !impl.AllMoveOk(fullNet(places), 0, 0) {
			t.Fatal(places)
		}
	}
	if !impl.AllMoveOk([]int{2, 1}, 1, 2) || impl.AllMoveOk(make([]int, 6), 1, 2) || impl.AllMoveOk(make([]int, 6), 31, 47) || !impl.AllMoveOk(allNeighbours(), 7, 56) {
		t.Fatal("two places, none and all are neighbours")
	}
	if !impl.AllMoveOk(ringOfSix(), 21, 42) || !impl.AllMoveOk(ringOfSix(), 9, 18) || !impl.AllMoveOk(ringOfSix(), 9, 6) || impl.AllMoveOk(ringOfSix(), 3, 12) || impl.AllMoveOk(ringOfSix(), 7, 56) {
		t.Fatal("a ring")
	}
	// Each of the two leaves is seen, but both by the guard at the middle alone.
	if impl.AllMoveOk(starAt(6, 5), 33, 6) || impl.AllMoveOk(starAt(6, 5), 3, 36) || !impl.AllMoveOk(starAt(6, 5), 3, 33) {
		t.Fatal("a star")
	}
	if !impl.AllMoveOk(threePairs(), 3, 48) || impl.AllMoveOk(threePairs(), 3, 33) || impl.AllMoveOk(threePairs(), 33, 18) || !impl.AllMoveOk(netOf(3, 0, 1), 5, 6) || impl.AllMoveOk(netOf(3, 0, 1), 3, 6) {
		t.Fatal("parts")
	}
}

func TestP82OtherGuardsGiveWay(t *testing.T) {
	// The first guard could stay at a place that the next one alone can take.
	if !impl.AllMoveOk(starAt(3, 0), 3, 6) || !impl.AllMoveOk(starAt(6, 0), 3, 34) || !impl.AllMoveOk(netOf(4, 0, 1, 0, 2, 1, 3), 3, 12) {
		t.Fatal("one gives way")
	}
	// From the one end of the way to the other each guard takes the place ahead.
	if !impl.AllMoveOk(netOf(6, 0, 1, 0, 2, 1, 3, 2, 4, 3, 5), 31, 47) || !impl.AllMoveOk(wayOf(6), 31, 62) || !impl.AllMoveOk(wayOf(6), 62, 31) {
		t.Fatal("many give way")
	}
}

func TestP82UnlikeSizes(t *testing.T) {
	for _, net := range fewNets() {
		for from := 0; from < 1<<len(net); from++ {
			for to := 0; to < 1<<len(net); to++ {
				if size(from) != size(to) && impl.AllMoveOk(net, from, to) {
					t.Fatal(net, from, to)
				}
			}
		}
	}
	if impl.AllMoveOk(allNeighbours(), 1, 3) || impl.AllMoveOk(allNeighbours(), 3, 1) || impl.AllMoveOk(allNeighbours(), 0, 1) || impl.AllMoveOk(allNeighbours(), 63, 31) {
		t.Fatal("all are neighbours")
	}
}

func TestP82Invalid(t *testing.T) {
	for _, wrong := range wrongSets() {
		for _, set := range []int{0, 1, 2, 3, wrong.set} {
			if impl.AllMoveOk(wrong.net, wrong.set, set) || impl.AllMoveOk(wrong.net, set, wrong.set) {
				t.Fatal(wrong.net, wrong.set, set)
			}
		}
	}
}

func TestP83Answer(t *testing.T) {
	for _, net := range fewNets() {
		steps := stepsTold(net)
		good := allMovingTold(net, steps)
		for set := range good {
			for place := range net {
				told := -1
				if good[set] && !has(set, place) {
					told = leastStep(good, steps[set], place)
				}
				if to := impl.AllAnswerOf(net, set, place); to != told {
					t.Fatal(net, set, place, to)
				}
			}
		}
	}
}

func TestP83Answered(t *testing.T) {
	for _, net := range append(netsUpTo(4), shapesOf(5)...) {
		for set := 0; set < 1<<len(net); set++ {
			for place := range net {
				to := impl.AllAnswerOf(net, set, place)
				if (to == -1) != (has(set, place) || !impl.AllEternalOk(net, set)) {
					t.Fatal(net, set, place, to)
				}
				if to != -1 && (!has(to, place) || size(to) != size(set) || !impl.AllMoveOk(net, set, to) || !impl.AllEternalOk(net, to)) {
					t.Fatal(net, set, place, to)
				}
			}
		}
	}
}

func TestP83Examples(t *testing.T) {
	if impl.AllAnswerOf([]int{2, 1}, 1, 1) != 2 || impl.AllAnswerOf(allNeighbours(), 1, 5) != 32 || impl.AllAnswerOf(ringOfSix(), 9, 1) != 18 || impl.AllAnswerOf(ringOfSix(), 9, 5) != 36 {
		t.Fatal("all are neighbours, and a ring")
	}
	// A lesser set is taken, though one guard alone could answer.
	if impl.AllAnswerOf(allNeighbours(), 6, 5) != 33 || impl.AllAnswerOf(starAt(6, 5), 33, 1) != 34 || impl.AllAnswerOf(starAt(6, 5), 31, 5) != 47 {
		t.Fatal("the least set")
	}
	if impl.AllAnswerOf(threePairs(), 7, 5) != 38 || impl.AllAnswerOf(threePairs(), 56, 1) != 7 || impl.AllAnswerOf(netOf(3, 0, 1), 5, 1) != 6 {
		t.Fatal("parts")
	}
}

func TestP83NoAnswer(t *testing.T) {
	if impl.AllAnswerOf([]int{0}, 1, 0) != -1 || impl.AllAnswerOf([]int{0}, 0, 0) != -1 || impl.AllAnswerOf([]int{2, 1}, 1, 0) != -1 || impl.AllAnswerOf([]int{2, 1}, 3, 1) != -1 {
		t.Fatal("one place and two")
	}
	for set := 0; set < 64; set++ {
		for place := 0; place < 6; place++ {
			if impl.AllAnswerOf(make([]int, 6), set, place) != -1 {
				t.Fatal("no wires", set, place)
			}
		}
	}
	if impl.AllAnswerOf(ringOfSix(), 9, 3) != -1 || impl.AllAnswerOf(ringOfSix(), 5, 1) != -1 || impl.AllAnswerOf(starAt(6, 5), 32, 0) != -1 || impl.AllAnswerOf(threePairs(), 33, 1) != -1 {
		t.Fatal("places with guards, and sets that are not eternal")
	}
}

func TestP83Invalid(t *testing.T) {
	for _, wrong := range wrongSets() {
		for place := -1; place <= impl.MaxPlaces; place++ {
			if impl.AllAnswerOf(wrong.net, wrong.set, place) != -1 {
				t.Fatal(wrong.net, wrong.set, place)
			}
		}
	}
}

func TestP83NotPlaces(t *testing.T) {
	for _, net := range append(netsUpTo(4), make([]int, 6), allNeighbours(), ringOfSix()) {
		for set := 0; set < 1<<len(net); set++ {
			for _, no := range notPlaces(len(net)) {
				if impl.AllAnswerOf(net, set, no) != -1 {
					t.Fatal(net, set, no)
				}
			}
		}
	}
}

// askChapter10 calls the functions of the chapter that take a net and a set.
func askChapter10(net []int, set int) {
	impl.AllMoveOk(net, set, 1)
	impl.AllMoveOk(net, 3, set)
	impl.AllEternalOk(net, set)
	impl.AllAnswerOf(net, set, 0)
	impl.AllAnswerOf(net, set, 1)
}

func TestChapter10WritesNothing(t *testing.T) {
	for _, list := range append(netsUpTo(4), append(notNets(), ringOfSix(), allNeighbours(), twoAndFour())...) {
		lentList := lent(list)
		for _, set := range setsToAsk() {
			askChapter10(lentList, set)
		}
		impl.FewestAllEternal(lentList)
		if !untouched(lentList, list) {
			t.Fatal(list)
		}
	}
}
