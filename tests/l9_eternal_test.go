package tests

import (
	"testing"

	"loop.example/guardsonnets/impl"
)

// eternalsTold tells for each set of a net whether it can answer as many requests as one likes:
// one more than before, till just as many sets can answer one more.
func eternalsTold(net []int) []bool {
	before := allGood(net)
	for {
		next := make([]bool, len(before))
		for set := range next {
			next[set] = answersEach(net, before, set)
		}
		if sameFlags(next, before) {
			return before
		}
		before = next
	}
}

// answerTold returns the least place from which a guard can answer, or -1.
func answerTold(net []int, eternals []bool, set int, place int) int {
	for from := range net {
		if next := movedTold(net, set, from, place); eternals[set] && next != -1 && eternals[next] {
			return from
		}
	}
	return -1
}

// answeredTold answers places one by one; all of them are places of the net.
func answeredTold(net []int, eternals []bool, set int, places []int) []int {
	sets := []int{set}
	for _, place := range places {
		if !has(set, place) {
			set = set - 1<<answerTold(net, eternals, set, place) + 1<<place
		}
		sets = append(sets, set)
	}
	return sets
}

// requestsOf returns lists of places to ask for: none, each one alone, the same one twice, up, down and mixed.
func requestsOf(places int) [][]int {
	lists := [][]int{nil, {}}
	up := []int{}
	down := []int{}
	mixed := []int{}
	for place := 0; place < places; place++ {
		lists = append(lists, []int{place}, []int{place, place})
		up = append(up, place)
		down = append(down, places-1-place)
		mixed = append(mixed, place*place%places, (5*place+1)%places, (places-place)*3%places)
	}
	return append(lists, up, down, mixed)
}

// allRequests returns all lists of as many places of a net.
func allRequests(places int, many int) [][]int {
	lists := [][]int{{}}
	for k := 0; k < many; k++ {
		longer := [][]int{}
		for _, list := range lists {
			for place := 0; place < places; place++ {
				longer = append(longer, append(append([]int{}, list...), place))
			}
		}
		lists = longer
	}
	return lists
}

func TestP42Eternal(t *testing.T) {
	for _, net := range manyNets() {
		for set, told := range eternalsTold(net) {
			if impl.EternalOk(net, set) != told {
				t.Fatal(net, set)
			}
		}
	}
}

func TestP42Secure(t *testing.T) {
	for _, net := range netsUpTo(impl.MaxPlaces) {
		eternals := make([]bool, 1<<len(net))
		for _, set := range impl.EternalSets(net) {
			eternals[set] = true
		}
		for set, one := range eternals {
			if !one {
				continue
			}
			if !impl.SecureOk(net, set) {
				t.Fatal(net, set)
			}
			for place := range net {
				if !eternals[set|1<<place] {
					t.Fatal(net, set, place)
				}
			}
		}
	}
}

func TestP42WhateverComes(t *testing.T) {
	for _, net := range fewNets() {
		for _, set := range impl.EternalSets(net) {
			for place := range net {
				from := impl.AnswerOf(net, set, place)
				if !has(set, place) && !impl.EternalOk(net, impl.GuardMoved(net, set, from, place)) {
					t.Fatal(net, set, place, from)
				}
				if !impl.EternalOk(net, set|1<<place) {
					t.Fatal(net, set, place)
				}
			}
		}
	}
}

func TestP42Examples(t *testing.T) {
	for places := 1; places <= impl.MaxPlaces; places++ {
		for _, net := range [][]int{make([]int, places), fullNet(places), starAt(places, 0)} {
			if !impl.EternalOk(net, 1<<places-1) || impl.EternalOk(net, 0) {
				t.Fatal(net)
			}
		}
	}
	if !impl.EternalOk([]int{2, 1}, 1) || impl.EternalOk(make([]int, 6), 31) || !impl.EternalOk(allNeighbours(), 32) {
		t.Fatal("two places, none and all are neighbours")
	}
	if impl.EternalOk(ringOfSix(), 9) || !impl.EternalOk(ringOfSix(), 21) || !impl.EternalOk(ringOfSix(), 11) || impl.EternalOk(ringOfSix(), 7) {
		t.Fatal("a ring")
	}
	if impl.EternalOk(starAt(6, 5), 32) || !impl.EternalOk(starAt(6, 5), 31) || !impl.EternalOk(starAt(6, 5), 47) || impl.EternalOk(starAt(6, 5), 7) {
		t.Fatal("a star")
	}
	if !impl.EternalOk(threePairs(), 7) || impl.EternalOk(threePairs(), 33) || !impl.EternalOk(netOf(3, 0, 1), 5) || impl.EternalOk(netOf(3, 0, 1), 3) {
		t.Fatal("parts")
	}
}

func TestP42OnceAndNotTwice(t *testing.T) {
	// Any guard of the two can leave, but not the other one as well.
	for _, set := range []int{3, 7, 11, 19, 35} {
		if !impl.SecureOk(twoAndFour(), set) || impl.EternalOk(twoAndFour(), set) {
			t.Fatal(set)
		}
	}
	if !impl.SecureOk([]int{28, 28, 3, 3, 3}, 3) || impl.EternalOk([]int{28, 28, 3, 3, 3}, 3) {
		t.Fatal("two and three")
	}
	if !impl.EternalOk(twoAndFour(), 15) || !impl.EternalOk(twoAndFour(), 60) {
		t.Fatal("four guards")
	}
}

func TestP42Invalid(t *testing.T) {
	for _, wrong := range wrongSets() {
		if impl.EternalOk(wrong.net, wrong.set) {
			t.Fatal(wrong.net, wrong.set)
		}
	}
}

func TestP43Fewest(t *testing.T) {
	for _, net := range netsUpTo(impl.MaxPlaces) {
		if fewest := impl.FewestEternal(net); fewest != fewestOf(eternalsTold(net)) {
			t.Fatal(net, fewest)
		}
	}
}

func TestP43NotManyMore(t *testing.T) {
	for _, net := range netsUpTo(impl.MaxPlaces) {
		fewest := impl.FewestEternal(net)
		apart := impl.MostApart(net)
		if fewest < apart || fewest < impl.FewestSecure(net) || 2*fewest > apart*(apart+1) {
			t.Fatal(net, fewest, apart)
		}
	}
}

func TestP43Examples(t *testing.T) {
	for places := 2; places <= impl.MaxPlaces; places++ {
		if impl.FewestEternal(make([]int, places)) != places || impl.FewestEternal(fullNet(places)) != 1 || impl.FewestEternal(starAt(places, places-1)) != places-1 {
			t.Fatal(places)
		}
	}
	if impl.FewestEternal([]int{0}) != 1 || impl.FewestEternal([]int{2, 1}) != 1 || impl.FewestEternal(ringOfSix()) != 3 || impl.FewestEternal(ringOfFour()) != 2 || impl.FewestEternal(wayOf(5)) != 3 || impl.FewestEternal(prismOfSix()) != 2 {
		t.Fatal("rings and ways")
	}
	// More guards than can be apart, and more than are secure.
	if impl.FewestEternal([]int{18, 5, 10, 20, 9}) != 3 || impl.MostApart([]int{18, 5, 10, 20, 9}) != 2 || impl.FewestEternal(twoAndFour()) != 4 || impl.FewestSecure(twoAndFour()) != 2 {
		t.Fatal("a ring of five, and two and four")
	}
	if impl.FewestEternal(twoMiddles()) != 4 || impl.FewestEternal(threePairs()) != 3 || impl.FewestEternal(netOf(3, 0, 1)) != 2 || impl.FewestEternal(starAndTwo()) != 5 {
		t.Fatal("two middles and parts")
	}
}

func TestP43Invalid(t *testing.T) {
	for _, list := range notNets() {
		if impl.FewestEternal(list) != -1 {
			t.Fatal(list)
		}
	}
}

func TestP44Answered(t *testing.T) {
	for _, net := range fewNets() {
		eternals := eternalsTold(net)
		lists := requestsOf(len(net))
		for _, set := range goodSets(eternals) {
			for _, list := range lists {
				if sets := impl.AnsweredAll(net, set, list); !sameList(sets, answeredTold(net, eternals, set, list)) {
					t.Fatal(net, set, list, sets)
				}
			}
		}
	}
}

func TestP44AllListsOfThree(t *testing.T) {
	for _, net := range netsUpTo(4) {
		eternals := eternalsTold(net)
		for _, list := range allRequests(len(net), 3) {
			for _, set := range goodSets(eternals) {
				if sets := impl.AnsweredAll(net, set, list); !sameList(sets, answeredTold(net, eternals, set, list)) {
					t.Fatal(net, set, list, sets)
				}
			}
		}
	}
}

// isKept reports whether sets are eternal, have as many guards, and each of them has the place asked for.
func isKept(net []int, sets []int, list []int) bool {
	for k, set := range sets {
		if !impl.EternalOk(net, set) || size(set) != size(sets[0]) || k > 0 && !has(set, list[k-1]) {
			return false
		}
	}
	return len(sets) == len(list)+1
}

func TestP44NothingIsLeft(t *testing.T) {
	for _, net := range append(netsUpTo(4), shapesOf(5)...) {
		lists := requestsOf(len(net))
		for _, set := range impl.EternalSets(net) {
			for _, list := range lists {
				if sets := impl.AnsweredAll(net, set, list); !isKept(net, sets, list) || sets[0] != set {
					t.Fatal(net, set, list, sets)
				}
			}
		}
	}
}

func TestP44Examples(t *testing.T) {
	if !sameList(impl.AnsweredAll([]int{0}, 1, []int{0, 0}), []int{1, 1, 1}) || !sameList(impl.AnsweredAll([]int{2, 1}, 1, []int{1, 1, 0}), []int{1, 2, 2, 1}) {
		t.Fatal("one place and two")
	}
	if !sameList(impl.AnsweredAll(make([]int, 6), 63, []int{5, 0, 3}), []int{63, 63, 63, 63}) || !sameList(impl.AnsweredAll(allNeighbours(), 1, []int{5, 5, 0, 2}), []int{1, 32, 32, 1, 4}) {
		t.Fatal("none and all are neighbours")
	}
	// The least guard goes, so that those who are greater stay.
	if !sameList(impl.AnsweredAll(allNeighbours(), 6, []int{5, 0, 5}), []int{6, 36, 33, 33}) || !sameList(impl.AnsweredAll(ringOfSix(), 21, []int{1, 3, 5}), []int{21, 22, 26, 42}) {
		t.Fatal("the least guard")
	}
	if !sameList(impl.AnsweredAll(threePairs(), 7, []int{5, 4, 3, 5}), []int{7, 38, 52, 56, 56}) || !sameList(impl.AnsweredAll(netOf(3, 0, 1), 5, []int{2, 1, 1}), []int{5, 5, 6, 6}) {
		t.Fatal("parts")
	}
}

func TestP44NoPlacesAndMany(t *testing.T) {
	if !sameList(impl.AnsweredAll([]int{0}, 1, nil), []int{1}) || !sameList(impl.AnsweredAll(ringOfSix(), 21, []int{}), []int{21}) {
		t.Fatal("no places")
	}
	many := make([]int, 1000)
	for k := range many {
		many[k] = 5 * (k % 2)
	}
	sets := impl.AnsweredAll(allNeighbours(), 2, many)
	for k, set := range sets {
		if k > 0 && set != 1<<many[k-1] {
			t.Fatal(k, set)
		}
	}
	if len(sets) != 1001 || sets[0] != 2 {
		t.Fatal(len(sets))
	}
}

func TestP44NotEternal(t *testing.T) {
	for _, net := range fewNets() {
		for set, eternal := range eternalsTold(net) {
			if !eternal && (len(impl.AnsweredAll(net, set, nil)) != 0 || len(impl.AnsweredAll(net, set, []int{0})) != 0) {
				t.Fatal(net, set)
			}
		}
	}
	if len(impl.AnsweredAll(twoAndFour(), 3, []int{2})) != 0 || len(impl.AnsweredAll(ringOfSix(), 9, nil)) != 0 {
		t.Fatal("sets that watch")
	}
}

func TestP44NotPlaces(t *testing.T) {
	for _, net := range append(netsUpTo(3), make([]int, 6), allNeighbours(), ringOfSix()) {
		all := 1<<len(net) - 1
		for _, no := range notPlaces(len(net)) {
			for _, list := range [][]int{{no}, {0, no}, {no, 0}, {0, no, 0}, {no, no}} {
				if len(impl.AnsweredAll(net, all, list)) != 0 {
					t.Fatal(net, list)
				}
			}
		}
	}
}

func TestP44Invalid(t *testing.T) {
	for _, wrong := range wrongSets() {
		if len(impl.AnsweredAll(wrong.net, wrong.set, nil)) != 0 || len(impl.AnsweredAll(wrong.net, wrong.set, []int{0})) != 0 {
			t.Fatal(wrong.net, wrong.set)
		}
	}
}

func TestP80Sets(t *testing.T) {
	for _, net := range netsUpTo(impl.MaxPlaces) {
		if sets := impl.EternalSets(net); !sameList(sets, goodSets(eternalsTold(net))) {
			t.Fatal(net, sets)
		}
	}
}

func TestP80AllPlaces(t *testing.T) {
	for _, net := range manyNets() {
		sets := impl.EternalSets(net)
		at := 0
		for set := 0; set < 1<<len(net); set++ {
			if !impl.EternalOk(net, set) {
				continue
			}
			if at >= len(sets) || sets[at] != set {
				t.Fatal(net, sets)
			}
			at++
		}
		if at != len(sets) || sets[at-1] != 1<<len(net)-1 {
			t.Fatal(net, sets)
		}
	}
}

func TestP80Examples(t *testing.T) {
	for places := 1; places <= impl.MaxPlaces; places++ {
		if !sameList(impl.EternalSets(make([]int, places)), []int{1<<places - 1}) {
			t.Fatal(places)
		}
		sets := impl.EternalSets(fullNet(places))
		if len(sets) != 1<<places-1 || sets[0] != 1 {
			t.Fatal(places)
		}
	}
	if !sameList(impl.EternalSets([]int{2, 1}), []int{1, 2, 3}) || !sameList(impl.EternalSets(wayOf(3)), []int{3, 5, 6, 7}) || !sameList(impl.EternalSets(netOf(3, 0, 1)), []int{5, 6, 7}) {
		t.Fatal("two places and three")
	}
	if !sameList(impl.EternalSets(threePairs()), []int{7, 11, 15, 21, 23, 25, 27, 29, 31, 38, 39, 42, 43, 46, 47, 52, 53, 54, 55, 56, 57, 58, 59, 60, 61, 62, 63}) {
		t.Fatal(impl.EternalSets(threePairs()))
	}
}

func TestP80Invalid(t *testing.T) {
	for _, list := range notNets() {
		if len(impl.EternalSets(list)) != 0 {
			t.Fatal(list)
		}
	}
}

func TestP81Answer(t *testing.T) {
	for _, net := range manyNets() {
		eternals := eternalsTold(net)
		for set := range eternals {
			for place := range net {
				if from := impl.AnswerOf(net, set, place); from != answerTold(net, eternals, set, place) {
					t.Fatal(net, set, place, from)
				}
			}
		}
	}
}

func TestP81NextToThePlace(t *testing.T) {
	for _, net := range fewNets() {
		for _, set := range impl.EternalSets(net) {
			for place := range net {
				from := impl.AnswerOf(net, set, place)
				if (from == -1) != has(set, place) || from != -1 && (!has(set, from) || !near(net, from, place)) {
					t.Fatal(net, set, place, from)
				}
				for lesser := 0; lesser < from; lesser++ {
					if impl.EternalOk(net, impl.GuardMoved(net, set, lesser, place)) {
						t.Fatal(net, set, place, lesser)
					}
				}
			}
		}
	}
}

func TestP81Examples(t *testing.T) {
	if impl.AnswerOf([]int{2, 1}, 1, 1) != 0 || impl.AnswerOf([]int{2, 1}, 2, 0) != 1 || impl.AnswerOf(allNeighbours(), 56, 0) != 3 || impl.AnswerOf(allNeighbours(), 32, 0) != 5 {
		t.Fatal("all are neighbours")
	}
	// The first neighbour with a guard cannot leave here, but the second one can.
	if impl.AnswerOf(ringOfSix(), 21, 1) != 0 || impl.AnswerOf(ringOfSix(), 11, 2) != 1 || impl.AnswerOf(ringOfSix(), 13, 1) != 2 {
		t.Fatal("a ring")
	}
	if impl.AnswerOf(starAt(6, 5), 31, 5) != 0 || impl.AnswerOf(starAt(6, 5), 47, 4) != 5 || impl.AnswerOf(threePairs(), 7, 4) != 1 {
		t.Fatal("a star and parts")
	}
}

func TestP81NoAnswer(t *testing.T) {
	for _, net := range fewNets() {
		for set, eternal := range eternalsTold(net) {
			for place := range net {
				if (!eternal || has(set, place)) && impl.AnswerOf(net, set, place) != -1 {
					t.Fatal(net, set, place)
				}
			}
		}
	}
	if impl.AnswerOf([]int{0}, 1, 0) != -1 || impl.AnswerOf([]int{0}, 0, 0) != -1 || impl.AnswerOf(make([]int, 6), 31, 5) != -1 || impl.AnswerOf(twoAndFour(), 3, 2) != -1 {
		t.Fatal("no answers")
	}
}

func TestP81Invalid(t *testing.T) {
	for _, wrong := range wrongSets() {
		for place := -1; place <= impl.MaxPlaces; place++ {
			if impl.AnswerOf(wrong.net, wrong.set, place) != -1 {
				t.Fatal(wrong.net, wrong.set, place)
			}
		}
	}
}

func TestP81NotPlaces(t *testing.T) {
	for _, net := range append(netsUpTo(4), make([]int, 6), allNeighbours(), ringOfSix()) {
		for set := 0; set < 1<<len(net); set++ {
			for _, no := range notPlaces(len(net)) {
				if impl.AnswerOf(net, set, no) != -1 {
					t.Fatal(net, set, no)
				}
			}
		}
	}
}

// askChapter9 calls the functions of the chapter that take a net and a set.
func askChapter9(net []int, set int, places []int) {
	impl.EternalOk(net, set)
	impl.AnswerOf(net, set, 0)
	impl.AnswerOf(net, set, 1)
	impl.AnsweredAll(net, set, places)
}

func TestChapter9WritesNothing(t *testing.T) {
	for _, list := range append(netsUpTo(4), append(notNets(), ringOfSix(), allNeighbours(), twoAndFour())...) {
		lentList := lent(list)
		places := []int{0, 1, 0, 3, 2}
		lentPlaces := lent(places)
		for _, set := range setsToAsk() {
			askChapter9(lentList, set, lentPlaces)
			askChapter9(lentList, set, lentPlaces[:1])
		}
		impl.EternalSets(lentList)
		impl.FewestEternal(lentList)
		if !untouched(lentList, list) || !untouched(lentPlaces, places) {
			t.Fatal(list)
		}
	}
}

func TestChapter9AnswersAreNew(t *testing.T) {
	for _, net := range fewNets() {
		all := 1<<len(net) - 1
		lentNet := lent(net)
		lentPlaces := lent([]int{0, 0})
		sets := impl.EternalSets(lentNet)
		answered := impl.AnsweredAll(lentNet, all, lentPlaces)
		was := append([]int{}, sets...)
		spoil(sets)
		spoil(answered)
		if !untouched(lentNet, net) || !untouched(lentPlaces, []int{0, 0}) {
			t.Fatal(net)
		}
		if !sameList(impl.EternalSets(lentNet), was) || !sameList(impl.AnsweredAll(lentNet, all, lentPlaces), []int{all, all, all}) {
			t.Fatal(net)
		}
	}
}
