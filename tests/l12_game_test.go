package tests

import (
	"testing"

	"loop.example/guardsonnets/impl"
)

// playTold asks each place whether a guard sees it that nobody saw.
func playTold(net []int, seen int, place int) bool {
	for other := range net {
		if !has(seen, other) && (other == place || near(net, place, other)) {
			return true
		}
	}
	return false
}

// endings tells for each set that is seen whether the game ends with as many guards as are told,
// whatever who wants many does.
type endings struct {
	few  []bool // who wants few is to play
	many []bool
}

// endsNow is the endings with no guard: all is seen.
func endsNow(net []int) endings {
	few := make([]bool, 1<<len(net))
	many := make([]bool, 1<<len(net))
	few[len(few)-1] = true
	many[len(many)-1] = true
	return endings{few, many}
}

// endsWithOneMore allows for one more guard than before.
func endsWithOneMore(net []int, before endings) endings {
	after := endsNow(net)
	for seen := 0; seen < len(after.few)-1; seen++ {
		some := false
		all := true
		for place := range net {
			if playTold(net, seen, place) {
				next := seen | ballTold(net, place)
				some = some || before.many[next]
				all = all && before.few[next]
			}
		}
		after.few[seen] = some
		after.many[seen] = all
	}
	return after
}

// endingsTold returns the endings of a net with no guard, with one, and so on.
func endingsTold(net []int) []endings {
	told := []endings{endsNow(net)}
	for guards := 1; guards <= len(net); guards++ {
		told = append(told, endsWithOneMore(net, told[guards-1]))
	}
	return told
}

// gameTold returns the least number of guards with which the game ends.
func gameTold(told []endings, seen int, few bool) int {
	for guards, ends := range told {
		if few && ends.few[seen] || !few && ends.many[seen] {
			return guards
		}
	}
	return -1
}

// bestTold returns the least place behind which one guard fewer is to come, or -1.
func bestTold(net []int, told []endings, seen int, few bool) int {
	for place := range net {
		if playTold(net, seen, place) && gameTold(told, seen|ballTold(net, place), !few) == gameTold(told, seen, few)-1 {
			return place
		}
	}
	return -1
}

// playedTold plays till all is seen.
func playedTold(net []int, told []endings, few bool) []int {
	places := []int{}
	seen := 0
	for seen != 1<<len(net)-1 {
		place := bestTold(net, told, seen, few)
		places = append(places, place)
		seen |= ballTold(net, place)
		few = !few
	}
	return places
}

func bothSides() []bool {
	return []bool{true, false}
}

func TestP51Moves(t *testing.T) {
	for _, net := range manyNets() {
		told := endingsTold(net)
		for seen := 0; seen < 1<<len(net); seen++ {
			for _, few := range bothSides() {
				if guards := impl.GameMoves(net, seen, few); guards != gameTold(told, seen, few) {
					t.Fatal(net, seen, few, guards)
				}
			}
		}
	}
}

func TestP51FromNothing(t *testing.T) {
	for _, net := range netsUpTo(impl.MaxPlaces) {
		told := endingsTold(net)
		few := impl.GameMoves(net, 0, true)
		many := impl.GameMoves(net, 0, false)
		if few != gameTold(told, 0, true) || many != gameTold(told, 0, false) {
			t.Fatal(net, few, many)
		}
		watch := impl.FewestWatch(net)
		if few < watch || many < watch || few > 2*watch-1 || many > 2*watch {
			t.Fatal(net, few, many, watch)
		}
	}
}

func TestP51SeenSparesGuards(t *testing.T) {
	for _, net := range fewNets() {
		for seen := 0; seen < 1<<len(net); seen++ {
			few := impl.GameMoves(net, seen, true)
			many := impl.GameMoves(net, seen, false)
			if few > many+1 || many > few+1 {
				t.Fatal(net, seen, few, many)
			}
			for place := range net {
				more := seen | 1<<place
				if impl.GameMoves(net, more, true) > few || impl.GameMoves(net, more, false) > many {
					t.Fatal(net, seen, place)
				}
			}
		}
	}
}

func TestP51Examples(t *testing.T) {
	for places := 1; places <= impl.MaxPlaces; places++ {
		for _, few := range bothSides() {
			if impl.GameMoves(make([]int, places), 0, few) != places || impl.GameMoves(fullNet(places), 0, few) != 1 {
				t.Fatal(places, few)
			}
			for _, net := range [][]int{make([]int, places), fullNet(places), starAt(places, 0)} {
				if impl.GameMoves(net, 1<<places-1, few) != 0 {
					t.Fatal(net, few)
				}
			}
		}
	}
	if impl.GameMoves(starAt(6, 5), 0, true) != 1 || impl.GameMoves(starAt(6, 5), 0, false) != 2 || impl.GameMoves(threePairs(), 0, true) != 3 || impl.GameMoves(threePairs(), 0, false) != 3 {
		t.Fatal("a star and pairs")
	}
	// On a ring of six who wants few does well to be the second one, on a star to be the first one.
	if impl.GameMoves(ringOfSix(), 0, true) != 3 || impl.GameMoves(ringOfSix(), 0, false) != 2 || impl.GameMoves(wayOf(5), 0, true) != 3 || impl.GameMoves(wayOf(5), 0, false) != 3 {
		t.Fatal("a ring and a way")
	}
	if impl.GameMoves(wayOf(4), 0, true) != 2 || impl.GameMoves(wayOf(4), 0, false) != 2 || impl.GameMoves(netOf(3, 0, 1), 0, true) != 2 || impl.GameMoves(netOf(3, 0, 1), 0, false) != 2 {
		t.Fatal("a way of four and two parts")
	}
}

func TestP51SomeSeen(t *testing.T) {
	if impl.GameMoves(make([]int, 6), 21, true) != 3 || impl.GameMoves(make([]int, 6), 62, false) != 1 {
		t.Fatal("no wires")
	}
	// A place alone is no ball of a net in which all are neighbours.
	if impl.GameMoves(allNeighbours(), 8, true) != 1 || impl.GameMoves(allNeighbours(), 31, false) != 1 {
		t.Fatal("all are neighbours")
	}
	// The ends of a way of five are left, or all but its ends.
	if impl.GameMoves(wayOf(5), 14, true) != 2 || impl.GameMoves(wayOf(5), 14, false) != 2 || impl.GameMoves(wayOf(5), 17, true) != 1 || impl.GameMoves(wayOf(5), 17, false) != 2 {
		t.Fatal("a way")
	}
	// All but the middle is seen; or the middle alone, and then who wants many can see one place a time.
	if impl.GameMoves(starAt(4, 0), 14, false) != 1 || impl.GameMoves(starAt(4, 0), 1, false) != 2 || impl.GameMoves(starAt(4, 0), 1, true) != 1 || impl.GameMoves(starAt(6, 5), 48, false) != 2 {
		t.Fatal("a star")
	}
}

func TestP51Invalid(t *testing.T) {
	for _, wrong := range wrongSets() {
		if impl.GameMoves(wrong.net, wrong.set, true) != -1 || impl.GameMoves(wrong.net, wrong.set, false) != -1 {
			t.Fatal(wrong.net, wrong.set)
		}
	}
}

func TestP52Best(t *testing.T) {
	for _, net := range manyNets() {
		told := endingsTold(net)
		for seen := 0; seen < 1<<len(net); seen++ {
			for _, few := range bothSides() {
				if place := impl.BestPlay(net, seen, few); place != bestTold(net, told, seen, few) {
					t.Fatal(net, seen, few, place)
				}
			}
		}
	}
}

// keepsNumber reports whether one guard fewer is to come behind a place.
func keepsNumber(net []int, seen int, few bool, place int) bool {
	return impl.PlayMay(net, seen, place) && impl.GameMoves(net, seen|impl.BallOf(net, place), !few) == impl.GameMoves(net, seen, few)-1
}

func TestP52KeepsTheNumber(t *testing.T) {
	for _, net := range fewNets() {
		all := 1<<len(net) - 1
		for seen := 0; seen < all; seen++ {
			for _, few := range bothSides() {
				place := impl.BestPlay(net, seen, few)
				if !keepsNumber(net, seen, few, place) {
					t.Fatal(net, seen, few, place)
				}
				for lesser := 0; lesser < place; lesser++ {
					if keepsNumber(net, seen, few, lesser) {
						t.Fatal(net, seen, few, lesser)
					}
				}
			}
		}
		if impl.BestPlay(net, all, true) != -1 || impl.BestPlay(net, all, false) != -1 {
			t.Fatal(net)
		}
	}
}

func TestP52Examples(t *testing.T) {
	for places := 1; places <= impl.MaxPlaces; places++ {
		for _, few := range bothSides() {
			if impl.BestPlay(make([]int, places), 0, few) != 0 || impl.BestPlay(make([]int, places), 1<<places-1, few) != -1 {
				t.Fatal(places, few)
			}
			if impl.BestPlay(make([]int, places), 1<<(places-1)-1, few) != places-1 || impl.BestPlay(fullNet(places), 1<<places-2, few) != 0 {
				t.Fatal(places, few)
			}
		}
	}
	if impl.BestPlay(starAt(6, 5), 0, true) != 5 || impl.BestPlay(starAt(6, 5), 0, false) != 0 || impl.BestPlay(starAt(6, 0), 0, true) != 0 || impl.BestPlay(starAt(6, 0), 0, false) != 1 {
		t.Fatal("stars")
	}
	// Behind a guard at 0 of a ring who wants many sees one place more, and who wants few all the others.
	if impl.BestPlay(ringOfSix(), 0, true) != 0 || impl.BestPlay(ringOfSix(), 35, false) != 1 || impl.BestPlay(ringOfSix(), 35, true) != 3 || impl.BestPlay(ringOfSix(), 39, true) != 3 || impl.BestPlay(ringOfSix(), 39, false) != 2 {
		t.Fatal("a ring")
	}
	// Who wants few takes the middle of a way whose ends are seen, who wants many one of these ends.
	if impl.BestPlay(wayOf(5), 17, true) != 2 || impl.BestPlay(wayOf(5), 17, false) != 0 || impl.BestPlay(wayOf(5), 15, true) != 3 || impl.BestPlay(threePairs(), 33, true) != 1 {
		t.Fatal("a way and pairs")
	}
}

func TestP52Invalid(t *testing.T) {
	for _, wrong := range wrongSets() {
		if impl.BestPlay(wrong.net, wrong.set, true) != -1 || impl.BestPlay(wrong.net, wrong.set, false) != -1 {
			t.Fatal(wrong.net, wrong.set)
		}
	}
}

func TestP53Play(t *testing.T) {
	for _, net := range netsUpTo(impl.MaxPlaces) {
		told := endingsTold(net)
		for _, few := range bothSides() {
			if places := impl.PlayOf(net, few); !sameList(places, playedTold(net, told, few)) {
				t.Fatal(net, few, places)
			}
		}
	}
}

func TestP53AsLongAsTold(t *testing.T) {
	for _, net := range netsUpTo(impl.MaxPlaces) {
		for _, few := range bothSides() {
			places := impl.PlayOf(net, few)
			if len(places) != impl.GameMoves(net, 0, few) {
				t.Fatal(net, few, places)
			}
			set := 0
			for _, place := range places {
				if !impl.PlayMay(net, impl.SeenBy(net, set), place) {
					t.Fatal(net, few, places)
				}
				set |= 1 << place
			}
			if !impl.WatchOk(net, set) {
				t.Fatal(net, few, places)
			}
		}
	}
}

func TestP53Examples(t *testing.T) {
	up := []int{0, 1, 2, 3, 4, 5}
	for places := 1; places <= impl.MaxPlaces; places++ {
		for _, few := range bothSides() {
			if !sameList(impl.PlayOf(make([]int, places), few), up[:places]) || !sameList(impl.PlayOf(fullNet(places), few), []int{0}) {
				t.Fatal(places, few)
			}
		}
	}
	if !sameList(impl.PlayOf(starAt(6, 5), true), []int{5}) || !sameList(impl.PlayOf(starAt(6, 5), false), []int{0, 5}) || !sameList(impl.PlayOf(starAt(6, 2), false), []int{0, 2}) {
		t.Fatal("stars")
	}
	if !sameList(impl.PlayOf(ringOfSix(), true), []int{0, 1, 3}) || !sameList(impl.PlayOf(ringOfSix(), false), []int{0, 3}) {
		t.Fatal("a ring")
	}
	if !sameList(impl.PlayOf(threePairs(), true), []int{0, 1, 2}) || !sameList(impl.PlayOf(netOf(3, 0, 1), false), []int{0, 2}) || !sameList(impl.PlayOf([]int{0}, true), []int{0}) {
		t.Fatal("parts")
	}
}

func TestP53Invalid(t *testing.T) {
	for _, list := range notNets() {
		if len(impl.PlayOf(list, true)) != 0 || len(impl.PlayOf(list, false)) != 0 {
			t.Fatal(list)
		}
	}
}

func TestP86May(t *testing.T) {
	for _, net := range netsUpTo(impl.MaxPlaces) {
		for seen := 0; seen < 1<<len(net); seen++ {
			for place := range net {
				if impl.PlayMay(net, seen, place) != playTold(net, seen, place) {
					t.Fatal(net, seen, place)
				}
			}
		}
	}
}

func TestP86OutsideOfTheSet(t *testing.T) {
	for _, net := range manyNets() {
		all := 1<<len(net) - 1
		for place := range net {
			if impl.PlayMay(net, all, place) || !impl.PlayMay(net, 0, place) {
				t.Fatal(net, place)
			}
			for seen := 0; seen <= all; seen++ {
				if impl.PlayMay(net, seen, place) != (seen|impl.BallOf(net, place) != seen) {
					t.Fatal(net, seen, place)
				}
			}
		}
	}
}

func TestP86Examples(t *testing.T) {
	for places := 1; places <= impl.MaxPlaces; places++ {
		for _, net := range [][]int{make([]int, places), fullNet(places), starAt(places, 0)} {
			if !impl.PlayMay(net, 0, places-1) || impl.PlayMay(net, 1<<places-1, places-1) {
				t.Fatal(net)
			}
		}
	}
	if impl.PlayMay(make([]int, 6), 8, 3) || !impl.PlayMay(make([]int, 6), 55, 3) || !impl.PlayMay(allNeighbours(), 8, 3) || !impl.PlayMay(allNeighbours(), 62, 3) {
		t.Fatal("none and all are neighbours")
	}
	// The place itself is seen, but a neighbour is not, or the other way round; or both are.
	if !impl.PlayMay(wayOf(4), 7, 2) || !impl.PlayMay(wayOf(4), 13, 1) || !impl.PlayMay(wayOf(4), 5, 1) || impl.PlayMay(wayOf(4), 7, 1) || impl.PlayMay(wayOf(4), 3, 0) || !impl.PlayMay(wayOf(4), 7, 3) {
		t.Fatal("a way")
	}
	if impl.PlayMay(threePairs(), 33, 0) || impl.PlayMay(threePairs(), 33, 5) || !impl.PlayMay(threePairs(), 33, 4) || !impl.PlayMay(ringOfSix(), 39, 2) || impl.PlayMay(ringOfSix(), 39, 1) {
		t.Fatal("pairs and a ring")
	}
}

func TestP86Invalid(t *testing.T) {
	for _, wrong := range wrongSets() {
		for place := -1; place <= impl.MaxPlaces; place++ {
			if impl.PlayMay(wrong.net, wrong.set, place) {
				t.Fatal(wrong.net, wrong.set, place)
			}
		}
	}
}

func TestP86NotPlaces(t *testing.T) {
	for _, net := range append(netsUpTo(4), make([]int, 6), allNeighbours(), ringOfSix()) {
		for seen := 0; seen < 1<<len(net); seen++ {
			for _, no := range notPlaces(len(net)) {
				if impl.PlayMay(net, seen, no) {
					t.Fatal(net, seen, no)
				}
			}
		}
	}
}

// askChapter12 calls the functions of the chapter that take a net and a set.
func askChapter12(net []int, seen int) {
	for _, few := range bothSides() {
		impl.GameMoves(net, seen, few)
		impl.BestPlay(net, seen, few)
	}
	for place := -1; place <= impl.MaxPlaces; place++ {
		impl.PlayMay(net, seen, place)
	}
}

func TestChapter12WritesNothing(t *testing.T) {
	for _, list := range append(fewNets(), notNets()...) {
		lentList := lent(list)
		for _, seen := range setsToAsk() {
			askChapter12(lentList, seen)
		}
		impl.PlayOf(lentList, true)
		impl.PlayOf(lentList, false)
		if !untouched(lentList, list) {
			t.Fatal(list)
		}
	}
}

func TestChapter12AnswersAreNew(t *testing.T) {
	for _, net := range manyNets() {
		lentNet := lent(net)
		few := impl.PlayOf(lentNet, true)
		many := impl.PlayOf(lentNet, false)
		wasFew := append([]int{}, few...)
		wasMany := append([]int{}, many...)
		spoil(few)
		if !sameList(many, wasMany) {
			t.Fatal(net)
		}
		spoil(many)
		if !untouched(lentNet, net) || !sameList(impl.PlayOf(lentNet, true), wasFew) || !sameList(impl.PlayOf(lentNet, false), wasMany) {
			t.Fatal(net)
		}
	}
}
