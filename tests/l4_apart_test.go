package tests

import (
	"testing"

	"loop.example/guardsonnets/impl"
)

// apartTold asks each two places of a set whether they are neighbours.
func apartTold(net []int, set int) bool {
	for b := range net {
		for a := 0; a < b; a++ {
			if has(set, a) && has(set, b) && near(net, a, b) {
				return false
			}
		}
	}
	return true
}

// apartsTold tells for each set of a net, by its number, whether its places are apart.
func apartsTold(net []int) []bool {
	aparts := make([]bool, 1<<len(net))
	for set := range aparts {
		aparts[set] = apartTold(net, set)
	}
	return aparts
}

// turned writes a set from its other end: who has the lesser place has the greater number.
func turned(set int) int {
	back := 0
	for place := 0; place < 6; place++ {
		back = back*2 + set>>place&1
	}
	return back
}

// grownTold returns of all good sets around a set the one that has the least places first.
// Who adds each place that can be added comes to it: none of these sets has a lesser place more.
func grownTold(good []bool, set int) int {
	grown := -1
	for around := set; around < len(good); around++ {
		if around&set == set && good[around] && (grown < 0 || turned(around) > turned(grown)) {
			grown = around
		}
	}
	return grown
}

// twoMiddles is a net in which the neighbours 0 and 1 watch, each with two leaves.
func twoMiddles() []int {
	return netOf(6, 0, 1, 0, 2, 0, 3, 1, 4, 1, 5)
}

func TestP20Apart(t *testing.T) {
	for _, net := range netsUpTo(impl.MaxPlaces) {
		for set, told := range apartsTold(net) {
			if impl.ApartOk(net, set) != told {
				t.Fatal(net, set)
			}
		}
	}
}

func TestP20NeedsAll(t *testing.T) {
	for _, net := range netsUpTo(impl.MaxPlaces) {
		for set := 0; set < 1<<len(net); set++ {
			if !impl.ApartOk(net, set) {
				continue
			}
			if !impl.NeedsAllOk(net, set) {
				t.Fatal(net, set)
			}
			for place := range net {
				if has(set, place) && (!has(impl.PrivateOf(net, set, place), place) || !impl.ApartOk(net, set-1<<place)) {
					t.Fatal(net, set, place)
				}
			}
		}
	}
}

func TestP20Examples(t *testing.T) {
	if !impl.ApartOk([]int{0}, 0) || !impl.ApartOk([]int{0}, 1) || !impl.ApartOk([]int{2, 1}, 2) || impl.ApartOk([]int{2, 1}, 3) {
		t.Fatal("one place and two")
	}
	if !impl.ApartOk(make([]int, 6), 0) || !impl.ApartOk(make([]int, 6), 63) || !impl.ApartOk(make([]int, 6), 42) {
		t.Fatal("no wires")
	}
	if !impl.ApartOk(allNeighbours(), 0) || !impl.ApartOk(allNeighbours(), 32) || impl.ApartOk(allNeighbours(), 33) || impl.ApartOk(allNeighbours(), 63) {
		t.Fatal("all are neighbours")
	}
	if !impl.ApartOk(ringOfSix(), 21) || !impl.ApartOk(ringOfSix(), 5) || impl.ApartOk(ringOfSix(), 33) || impl.ApartOk(ringOfSix(), 23) {
		t.Fatal("a ring")
	}
	if !impl.ApartOk(starAt(6, 5), 31) || impl.ApartOk(starAt(6, 5), 33) || impl.ApartOk(starAt(6, 5), 63) {
		t.Fatal("a star")
	}
	// Guards can need each other without being apart.
	if impl.ApartOk(twoMiddles(), 3) || !impl.NeedsAllOk(twoMiddles(), 3) {
		t.Fatal("two neighbours")
	}
	if !impl.ApartOk(netOf(3, 0, 1), 6) || impl.ApartOk(netOf(3, 0, 1), 7) {
		t.Fatal("a lone place")
	}
}

func TestP20Invalid(t *testing.T) {
	for _, wrong := range wrongSets() {
		if impl.ApartOk(wrong.net, wrong.set) {
			t.Fatal(wrong.net, wrong.set)
		}
	}
}

func TestP21Full(t *testing.T) {
	for _, net := range netsUpTo(impl.MaxPlaces) {
		for set, told := range lastsOf(apartsTold(net)) {
			if impl.FullApartOk(net, set) != told {
				t.Fatal(net, set)
			}
		}
	}
}

func TestP21ApartWatches(t *testing.T) {
	for _, net := range netsUpTo(impl.MaxPlaces) {
		for set := 0; set < 1<<len(net); set++ {
			full := impl.FullApartOk(net, set)
			if full != (impl.ApartOk(net, set) && impl.WatchOk(net, set)) || full && !impl.LeastWatchOk(net, set) {
				t.Fatal(net, set)
			}
		}
	}
}

func TestP21Examples(t *testing.T) {
	if impl.FullApartOk([]int{0}, 0) || !impl.FullApartOk([]int{0}, 1) || !impl.FullApartOk([]int{2, 1}, 1) || impl.FullApartOk([]int{2, 1}, 3) {
		t.Fatal("one place and two")
	}
	if !impl.FullApartOk(make([]int, 6), 63) || impl.FullApartOk(make([]int, 6), 62) || impl.FullApartOk(make([]int, 6), 0) {
		t.Fatal("no wires")
	}
	if !impl.FullApartOk(allNeighbours(), 1) || !impl.FullApartOk(allNeighbours(), 32) || impl.FullApartOk(allNeighbours(), 0) || impl.FullApartOk(allNeighbours(), 3) {
		t.Fatal("all are neighbours")
	}
	if !impl.FullApartOk(ringOfSix(), 9) || !impl.FullApartOk(ringOfSix(), 42) || impl.FullApartOk(ringOfSix(), 5) || impl.FullApartOk(ringOfSix(), 3) || impl.FullApartOk(ringOfSix(), 63) {
		t.Fatal("a ring")
	}
	// A least watch with neighbours in it is not of places apart.
	if !impl.FullApartOk(twoMiddles(), 49) || !impl.FullApartOk(twoMiddles(), 60) || impl.FullApartOk(twoMiddles(), 3) || !impl.LeastWatchOk(twoMiddles(), 3) {
		t.Fatal("two neighbours")
	}
	if !impl.FullApartOk(netOf(3, 0, 1), 5) || impl.FullApartOk(netOf(3, 0, 1), 1) || impl.FullApartOk(netOf(3, 0, 1), 7) {
		t.Fatal("a lone place")
	}
}

func TestP21Invalid(t *testing.T) {
	for _, wrong := range wrongSets() {
		if impl.FullApartOk(wrong.net, wrong.set) {
			t.Fatal(wrong.net, wrong.set)
		}
	}
}

func TestP22Fewest(t *testing.T) {
	for _, net := range netsUpTo(impl.MaxPlaces) {
		fewest := impl.FewestApart(net)
		if fewest != fewestOf(lastsOf(apartsTold(net))) || fewest < impl.FewestWatch(net) || fewest > impl.MostApart(net) {
			t.Fatal(net, fewest)
		}
	}
}

func TestP22Examples(t *testing.T) {
	for places := 1; places <= impl.MaxPlaces; places++ {
		if impl.FewestApart(make([]int, places)) != places || impl.FewestApart(starAt(places, 0)) != 1 {
			t.Fatal(places)
		}
	}
	if impl.FewestApart(allNeighbours()) != 1 || impl.FewestApart(ringOfSix()) != 2 || impl.FewestApart(netOf(5, 0, 1, 1, 2, 2, 3, 3, 4)) != 2 {
		t.Fatal("a ring and a way")
	}
	// Two neighbours watch this net, but three are needed apart.
	if impl.FewestApart(twoMiddles()) != 3 || impl.FewestWatch(twoMiddles()) != 2 {
		t.Fatal("two neighbours")
	}
	if impl.FewestApart(netOf(3, 0, 1)) != 2 || impl.FewestApart(netOf(6, 0, 5, 1, 4, 2, 3)) != 3 {
		t.Fatal("parts")
	}
}

func TestP22Invalid(t *testing.T) {
	for _, list := range notNets() {
		if impl.FewestApart(list) != -1 {
			t.Fatal(list)
		}
	}
}

func TestP23Most(t *testing.T) {
	for _, net := range netsUpTo(impl.MaxPlaces) {
		most := impl.MostApart(net)
		if most != mostOf(apartsTold(net)) || most < impl.PartMany(net) || (most == len(net)) != (impl.WiresOf(net) == 0) {
			t.Fatal(net, most)
		}
	}
}

func TestP23LargestAreFull(t *testing.T) {
	for _, net := range netsUpTo(impl.MaxPlaces) {
		most := impl.MostApart(net)
		some := false
		for set := 0; set < 1<<len(net); set++ {
			if !impl.ApartOk(net, set) || size(set) < most {
				continue
			}
			some = true
			if size(set) > most || !impl.FullApartOk(net, set) {
				t.Fatal(net, set, most)
			}
		}
		if !some {
			t.Fatal(net, most)
		}
	}
}

func TestP23Examples(t *testing.T) {
	for places := 1; places <= impl.MaxPlaces; places++ {
		if impl.MostApart(make([]int, places)) != places {
			t.Fatal(places)
		}
	}
	if impl.MostApart([]int{2, 1}) != 1 || impl.MostApart(allNeighbours()) != 1 || impl.MostApart(starAt(6, 5)) != 5 || impl.MostApart(starAt(6, 0)) != 5 {
		t.Fatal("all are neighbours, and stars")
	}
	if impl.MostApart(ringOfSix()) != 3 || impl.MostApart(netOf(5, 0, 1, 1, 2, 2, 3, 3, 4)) != 3 || impl.MostApart(twoMiddles()) != 4 {
		t.Fatal("a ring, a way and two neighbours")
	}
	if impl.MostApart(netOf(3, 0, 1)) != 2 || impl.MostApart(netOf(6, 0, 5, 1, 4, 2, 3)) != 3 || impl.MostApart(netOf(6, 1, 4)) != 5 {
		t.Fatal("parts")
	}
}

func TestP23Invalid(t *testing.T) {
	for _, list := range notNets() {
		if impl.MostApart(list) != -1 {
			t.Fatal(list)
		}
	}
}

func TestP24Full(t *testing.T) {
	for _, net := range netsUpTo(impl.MaxPlaces) {
		for set := 0; set < 1<<len(net); set++ {
			if !impl.ApartOk(net, set) {
				continue
			}
			grown := impl.GrownApart(net, set)
			if !impl.FullApartOk(net, grown) || grown&set != set || impl.GrownApart(net, grown) != grown {
				t.Fatal(net, set, grown)
			}
		}
	}
}

func TestP24LeastGoFirst(t *testing.T) {
	for _, net := range netsUpTo(impl.MaxPlaces) {
		aparts := apartsTold(net)
		for set, apart := range aparts {
			told := -1
			if apart {
				told = grownTold(aparts, set)
			}
			if grown := impl.GrownApart(net, set); grown != told {
				t.Fatal(net, set, grown)
			}
		}
	}
}

func TestP24Examples(t *testing.T) {
	if impl.GrownApart([]int{0}, 0) != 1 || impl.GrownApart([]int{0}, 1) != 1 || impl.GrownApart([]int{2, 1}, 0) != 1 || impl.GrownApart([]int{2, 1}, 2) != 2 {
		t.Fatal("one place and two")
	}
	if impl.GrownApart(make([]int, 6), 0) != 63 || impl.GrownApart(make([]int, 6), 63) != 63 || impl.GrownApart(allNeighbours(), 0) != 1 || impl.GrownApart(allNeighbours(), 32) != 32 {
		t.Fatal("none and all are neighbours")
	}
	if impl.GrownApart(ringOfSix(), 0) != 21 || impl.GrownApart(ringOfSix(), 32) != 42 || impl.GrownApart(ringOfSix(), 8) != 9 || impl.GrownApart(ringOfSix(), 18) != 18 {
		t.Fatal("a ring")
	}
	// The middle comes first where it has the least number, and last where it has the greatest.
	if impl.GrownApart(starAt(6, 0), 0) != 1 || impl.GrownApart(starAt(6, 0), 32) != 62 || impl.GrownApart(starAt(6, 5), 0) != 31 || impl.GrownApart(starAt(6, 5), 32) != 32 {
		t.Fatal("stars")
	}
	if impl.GrownApart(netOf(3, 0, 1), 0) != 5 || impl.GrownApart(netOf(3, 0, 1), 2) != 6 {
		t.Fatal("a lone place")
	}
}

func TestP24NotApart(t *testing.T) {
	if impl.GrownApart([]int{2, 1}, 3) != -1 || impl.GrownApart(ringOfSix(), 33) != -1 || impl.GrownApart(allNeighbours(), 48) != -1 || impl.GrownApart(allNeighbours(), 63) != -1 {
		t.Fatal("sets with neighbours")
	}
	if impl.GrownApart(starAt(6, 5), 33) != -1 || impl.GrownApart(twoMiddles(), 3) != -1 || impl.GrownApart(netOf(3, 0, 1), 7) != -1 {
		t.Fatal("sets with neighbours")
	}
}

func TestP24Invalid(t *testing.T) {
	for _, wrong := range wrongSets() {
		if impl.GrownApart(wrong.net, wrong.set) != -1 {
			t.Fatal(wrong.net, wrong.set)
		}
	}
}

func TestP25Count(t *testing.T) {
	for _, net := range netsUpTo(impl.MaxPlaces) {
		count := 0
		for _, one := range sizesOf(apartsTold(net)) {
			count += one
		}
		if impl.ApartCount(net) != count {
			t.Fatal(net, count)
		}
	}
}

func TestP25Bounds(t *testing.T) {
	for _, net := range netsUpTo(impl.MaxPlaces) {
		count := impl.ApartCount(net)
		if count < len(net)+1 || (count == 1<<len(net)) != (impl.WiresOf(net) == 0) {
			t.Fatal(net, count)
		}
	}
}

func TestP25Examples(t *testing.T) {
	for places := 1; places <= impl.MaxPlaces; places++ {
		if impl.ApartCount(make([]int, places)) != 1<<places || impl.ApartCount(starAt(places, 0)) != 1<<(places-1)+1 {
			t.Fatal(places)
		}
	}
	if impl.ApartCount(allNeighbours()) != 7 || impl.ApartCount(ringOfSix()) != 18 || impl.ApartCount(netOf(5, 0, 1, 1, 2, 2, 3, 3, 4)) != 13 {
		t.Fatal("all are neighbours, a ring and a way")
	}
	if impl.ApartCount(netOf(3, 0, 1)) != 6 || impl.ApartCount(netOf(6, 0, 5, 1, 4, 2, 3)) != 27 {
		t.Fatal("parts")
	}
}

func TestP25Invalid(t *testing.T) {
	for _, list := range notNets() {
		if impl.ApartCount(list) != -1 {
			t.Fatal(list)
		}
	}
}

// askChapter4 calls each function of the chapter with a net and a set.
func askChapter4(net []int, set int) {
	impl.ApartOk(net, set)
	impl.FullApartOk(net, set)
	impl.FewestApart(net)
	impl.MostApart(net)
	impl.GrownApart(net, set)
	impl.ApartCount(net)
}

func TestChapter4WritesNothing(t *testing.T) {
	for _, list := range listsToLend() {
		lentList := lent(list)
		for _, set := range setsToAsk() {
			askChapter4(lentList, set)
		}
		if !untouched(lentList, list) {
			t.Fatal(list)
		}
	}
}
