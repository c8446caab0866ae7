package tests

import (
	"testing"

	"loop.example/guardsonnets/impl"
)

// packedTold asks each two guards of a set whether their balls meet.
func packedTold(net []int, set int) bool {
	for b := range net {
		for a := 0; a < b; a++ {
			if has(set, a) && has(set, b) && ballTold(net, a)&ballTold(net, b) != 0 {
				return false
			}
		}
	}
	return true
}

// packedsTold tells for each set of a net, by its number, whether it is packed.
func packedsTold(net []int) []bool {
	packeds := make([]bool, 1<<len(net))
	for set := range packeds {
		packeds[set] = packedTold(net, set)
	}
	return packeds
}

// efficientTold asks each place whether just one guard sees it.
func efficientTold(net []int, set int) bool {
	for place := range net {
		if size(guardsAt(net, set, place)) != 1 {
			return false
		}
	}
	return true
}

// efficientsTold tells for each set of a net, by its number, whether it sees each place just once.
func efficientsTold(net []int) []bool {
	efficients := make([]bool, 1<<len(net))
	for set := range efficients {
		efficients[set] = efficientTold(net, set)
	}
	return efficients
}

// firstGood returns the least set that is a good one, or -1.
func firstGood(good []bool) int {
	for set, one := range good {
		if one {
			return set
		}
	}
	return -1
}

// isOnRing reports whether two neighbours stay in one part if their wire is cut.
func isOnRing(net []int, a int, b int) bool {
	cut := append([]int{}, net...)
	cut[a] -= 1 << b
	cut[b] -= 1 << a
	return has(partsTold(cut)[a], b)
}

// forestTold asks each wire whether it is on a ring.
func forestTold(net []int) bool {
	for b := range net {
		for a := 0; a < b; a++ {
			if near(net, a, b) && isOnRing(net, a, b) {
				return false
			}
		}
	}
	return true
}

func TestP47Packed(t *testing.T) {
	for _, net := range netsUpTo(impl.MaxPlaces) {
		for set, told := range packedsTold(net) {
			if impl.PackedOk(net, set) != told {
				t.Fatal(net, set)
			}
		}
	}
}

func TestP47ApartAndNeeded(t *testing.T) {
	for _, net := range netsUpTo(impl.MaxPlaces) {
		for set := 0; set < 1<<len(net); set++ {
			packed := impl.PackedOk(net, set)
			if packed != (impl.SeenTwice(net, set) == 0) || packed && (!impl.ApartOk(net, set) || !impl.NeedsAllOk(net, set)) {
				t.Fatal(net, set)
			}
			for place := range net {
				if packed && !impl.PackedOk(net, set&^(1<<place)) {
					t.Fatal(net, set, place)
				}
			}
		}
	}
}

func TestP47Examples(t *testing.T) {
	for _, net := range netsUpTo(4) {
		if !impl.PackedOk(net, 0) {
			t.Fatal(net)
		}
		for place := range net {
			if !impl.PackedOk(net, 1<<place) {
				t.Fatal(net, place)
			}
		}
	}
	if !impl.PackedOk(make([]int, 6), 63) || impl.PackedOk(allNeighbours(), 33) || impl.PackedOk(allNeighbours(), 63) || impl.PackedOk([]int{2, 1}, 3) || !impl.PackedOk(allNeighbours(), 0) {
		t.Fatal("none and all are neighbours")
	}
	// Guards apart with a place between them are not packed.
	if !impl.PackedOk(ringOfSix(), 9) || impl.PackedOk(ringOfSix(), 5) || impl.PackedOk(ringOfSix(), 3) || impl.PackedOk(starAt(6, 5), 3) || impl.PackedOk(starAt(6, 5), 31) {
		t.Fatal("a ring and a star")
	}
	if !impl.PackedOk(wayOf(6), 9) || !impl.PackedOk(wayOf(6), 33) || !impl.PackedOk(twoMiddles(), 20) || impl.PackedOk(twoMiddles(), 12) || impl.PackedOk(twoMiddles(), 17) {
		t.Fatal("a way and two middles")
	}
	if !impl.PackedOk(threePairs(), 7) || impl.PackedOk(threePairs(), 33) || !impl.PackedOk(netOf(3, 0, 1), 6) || impl.PackedOk(netOf(3, 0, 1), 7) {
		t.Fatal("parts")
	}
}

func TestP47Invalid(t *testing.T) {
	for _, wrong := range wrongSets() {
		if impl.PackedOk(wrong.net, wrong.set) {
			t.Fatal(wrong.net, wrong.set)
		}
	}
}

func TestP48Most(t *testing.T) {
	for _, net := range netsUpTo(impl.MaxPlaces) {
		if most := impl.MostPacked(net); most != mostOf(packedsTold(net)) {
			t.Fatal(net, most)
		}
	}
}

func TestP48NoFewerWatch(t *testing.T) {
	for _, net := range netsUpTo(impl.MaxPlaces) {
		most := impl.MostPacked(net)
		watch := impl.FewestWatch(net)
		if most > watch || most < impl.PartMany(net) || impl.ForestOk(net) && most != watch {
			t.Fatal(net, most)
		}
	}
}

func TestP48Examples(t *testing.T) {
	for places := 1; places <= impl.MaxPlaces; places++ {
		if impl.MostPacked(make([]int, places)) != places || impl.MostPacked(fullNet(places)) != 1 || impl.MostPacked(starAt(places, 0)) != 1 {
			t.Fatal(places)
		}
	}
	if impl.MostPacked([]int{2, 1}) != 1 || impl.MostPacked(ringOfSix()) != 2 || impl.MostPacked(wayOf(6)) != 2 || impl.MostPacked(twoMiddles()) != 2 {
		t.Fatal("a ring, a way and two middles")
	}
	// One is packed alone where two watch.
	if impl.MostPacked(ringOfFour()) != 1 || impl.FewestWatch(ringOfFour()) != 2 || impl.MostPacked(prismOfSix()) != 1 || impl.FewestWatch(prismOfSix()) != 2 {
		t.Fatal("rings")
	}
	if impl.MostPacked(threePairs()) != 3 || impl.MostPacked(netOf(3, 0, 1)) != 2 || impl.MostPacked(starAndTwo()) != 3 {
		t.Fatal("parts")
	}
}

func TestP48Invalid(t *testing.T) {
	for _, list := range notNets() {
		if impl.MostPacked(list) != -1 {
			t.Fatal(list)
		}
	}
}

func TestP49Efficient(t *testing.T) {
	for _, net := range netsUpTo(impl.MaxPlaces) {
		for set, told := range efficientsTold(net) {
			if impl.EfficientOk(net, set) != told {
				t.Fatal(net, set)
			}
		}
	}
}

func TestP49AllAreAsMany(t *testing.T) {
	for _, net := range netsUpTo(impl.MaxPlaces) {
		fewest := impl.FewestWatch(net)
		for set := 0; set < 1<<len(net); set++ {
			efficient := impl.EfficientOk(net, set)
			if efficient != (impl.PackedOk(net, set) && impl.WatchOk(net, set)) || efficient && size(set) != fewest {
				t.Fatal(net, set)
			}
		}
	}
}

func TestP49Examples(t *testing.T) {
	if impl.EfficientOk([]int{0}, 0) || !impl.EfficientOk([]int{0}, 1) || !impl.EfficientOk([]int{2, 1}, 2) || impl.EfficientOk([]int{2, 1}, 3) || impl.EfficientOk([]int{2, 1}, 0) {
		t.Fatal("one place and two")
	}
	if !impl.EfficientOk(make([]int, 6), 63) || impl.EfficientOk(make([]int, 6), 62) || !impl.EfficientOk(allNeighbours(), 4) || impl.EfficientOk(allNeighbours(), 6) {
		t.Fatal("none and all are neighbours")
	}
	// It is packed without watching, and watches without being packed.
	if !impl.EfficientOk(ringOfSix(), 9) || !impl.EfficientOk(ringOfSix(), 36) || impl.EfficientOk(ringOfSix(), 1) || impl.EfficientOk(ringOfSix(), 21) {
		t.Fatal("a ring")
	}
	if !impl.EfficientOk(starAt(6, 5), 32) || impl.EfficientOk(starAt(6, 5), 31) || impl.EfficientOk(starAt(6, 5), 1) || impl.EfficientOk(twoMiddles(), 3) || !impl.EfficientOk(threePairs(), 56) || impl.EfficientOk(threePairs(), 24) {
		t.Fatal("a star, two middles and parts")
	}
}

func TestP49Invalid(t *testing.T) {
	for _, wrong := range wrongSets() {
		if impl.EfficientOk(wrong.net, wrong.set) {
			t.Fatal(wrong.net, wrong.set)
		}
	}
}

func TestP50Forest(t *testing.T) {
	for _, net := range netsUpTo(impl.MaxPlaces) {
		if impl.ForestOk(net) != forestTold(net) {
			t.Fatal(net)
		}
	}
}

func TestP50WiresAndParts(t *testing.T) {
	for _, net := range netsUpTo(impl.MaxPlaces) {
		if impl.ForestOk(net) != (impl.WiresOf(net)+impl.PartMany(net) == len(net)) {
			t.Fatal(net)
		}
	}
}

func TestP50Examples(t *testing.T) {
	for places := 1; places <= impl.MaxPlaces; places++ {
		if !impl.ForestOk(make([]int, places)) || !impl.ForestOk(wayOf(places)) || !impl.ForestOk(starAt(places, places-1)) || impl.ForestOk(fullNet(places)) != (places < 3) {
			t.Fatal(places)
		}
	}
	if impl.ForestOk(ringOfSix()) || impl.ForestOk(ringOfFour()) || impl.ForestOk(prismOfSix()) || impl.ForestOk(twoAndFour()) || !impl.ForestOk(twoMiddles()) {
		t.Fatal("rings")
	}
	if !impl.ForestOk(threePairs()) || !impl.ForestOk(starAndTwo()) || !impl.ForestOk(netOf(3, 0, 1)) {
		t.Fatal("parts without rings")
	}
	// A ring with a way behind it, one beside a pair, and two rings with a wire between them.
	if impl.ForestOk(netOf(6, 0, 1, 1, 2, 2, 0, 2, 3, 3, 4, 4, 5)) || impl.ForestOk(netOf(5, 0, 1, 2, 3, 3, 4, 4, 2)) || impl.ForestOk(netOf(6, 0, 1, 1, 2, 2, 0, 3, 4, 4, 5, 5, 3, 2, 3)) || impl.ForestOk(netOf(4, 1, 2, 2, 3, 3, 1)) {
		t.Fatal("rings with more")
	}
}

func TestP50Invalid(t *testing.T) {
	for _, list := range notNets() {
		if impl.ForestOk(list) {
			t.Fatal(list)
		}
	}
}

func TestP84Least(t *testing.T) {
	for _, net := range netsUpTo(impl.MaxPlaces) {
		if set := impl.EfficientOf(net); set != firstGood(efficientsTold(net)) {
			t.Fatal(net, set)
		}
	}
}

func TestP84PackedAndWatchingMeet(t *testing.T) {
	for _, net := range netsUpTo(impl.MaxPlaces) {
		set := impl.EfficientOf(net)
		if set != -1 && (!impl.EfficientOk(net, set) || impl.MostPacked(net) != impl.FewestWatch(net)) {
			t.Fatal(net, set)
		}
		for lesser := 0; lesser < 1<<len(net); lesser++ {
			if (set == -1 || lesser < set) && impl.EfficientOk(net, lesser) {
				t.Fatal(net, set, lesser)
			}
		}
	}
}

func TestP84Examples(t *testing.T) {
	for places := 1; places <= impl.MaxPlaces; places++ {
		if impl.EfficientOf(make([]int, places)) != 1<<places-1 || impl.EfficientOf(fullNet(places)) != 1 {
			t.Fatal(places)
		}
	}
	if impl.EfficientOf([]int{2, 1}) != 1 || impl.EfficientOf(starAt(6, 5)) != 32 || impl.EfficientOf(starAt(6, 0)) != 1 || impl.EfficientOf(ringOfSix()) != 9 || impl.EfficientOf(wayOf(6)) != 18 {
		t.Fatal("stars, a ring and a way")
	}
	if impl.EfficientOf(threePairs()) != 7 || impl.EfficientOf(netOf(3, 0, 1)) != 5 || impl.EfficientOf(starAndTwo()) != 49 {
		t.Fatal("parts")
	}
}

func TestP84None(t *testing.T) {
	if impl.EfficientOf(ringOfFour()) != -1 || impl.EfficientOf([]int{18, 5, 10, 20, 9}) != -1 || impl.EfficientOf(prismOfSix()) != -1 || impl.EfficientOf(twoAndFour()) != -1 {
		t.Fatal("rings")
	}
	// As many are packed as watch, but none of these sets does both.
	if impl.EfficientOf(twoMiddles()) != -1 || impl.MostPacked(twoMiddles()) != 2 || impl.FewestWatch(twoMiddles()) != 2 {
		t.Fatal("two middles")
	}
	if impl.EfficientOf(netOf(6, 0, 1, 1, 2, 2, 3, 3, 0)) != -1 {
		t.Fatal("a ring of four and two lone places")
	}
}

func TestP84Invalid(t *testing.T) {
	for _, list := range notNets() {
		if impl.EfficientOf(list) != -1 {
			t.Fatal(list)
		}
	}
}

func TestP85Packed(t *testing.T) {
	for _, net := range netsUpTo(impl.MaxPlaces) {
		for set := 0; set < 1<<len(net); set++ {
			if !impl.PackedOk(net, set) {
				continue
			}
			grown := impl.GrownPacked(net, set)
			if !impl.PackedOk(net, grown) || grown&set != set {
				t.Fatal(net, set, grown)
			}
			for place := range net {
				if !has(grown, place) && impl.PackedOk(net, grown+1<<place) {
					t.Fatal(net, set, grown, place)
				}
			}
		}
	}
}

func TestP85LeastGoFirst(t *testing.T) {
	for _, net := range netsUpTo(impl.MaxPlaces) {
		packeds := packedsTold(net)
		for set, packed := range packeds {
			told := -1
			if packed {
				told = grownTold(packeds, set)
			}
			if grown := impl.GrownPacked(net, set); grown != told {
				t.Fatal(net, set, grown)
			}
		}
	}
}

func TestP85Examples(t *testing.T) {
	for places := 1; places <= impl.MaxPlaces; places++ {
		if impl.GrownPacked(make([]int, places), 0) != 1<<places-1 || impl.GrownPacked(fullNet(places), 0) != 1 || impl.GrownPacked(fullNet(places), 1<<(places-1)) != 1<<(places-1) {
			t.Fatal(places)
		}
	}
	if impl.GrownPacked([]int{2, 1}, 0) != 1 || impl.GrownPacked([]int{2, 1}, 2) != 2 || impl.GrownPacked(starAt(6, 5), 0) != 1 || impl.GrownPacked(starAt(6, 5), 32) != 32 {
		t.Fatal("two places and a star")
	}
	if impl.GrownPacked(ringOfSix(), 0) != 9 || impl.GrownPacked(ringOfSix(), 4) != 36 || impl.GrownPacked(wayOf(6), 0) != 9 || impl.GrownPacked(wayOf(6), 32) != 33 || impl.GrownPacked(wayOf(6), 2) != 18 {
		t.Fatal("a ring and a way")
	}
	if impl.GrownPacked(threePairs(), 0) != 7 || impl.GrownPacked(threePairs(), 32) != 38 || impl.GrownPacked(netOf(3, 0, 1), 2) != 6 || impl.GrownPacked(starAndTwo(), 0) != 49 {
		t.Fatal("parts")
	}
}

func TestP85NotPacked(t *testing.T) {
	if impl.GrownPacked([]int{2, 1}, 3) != -1 || impl.GrownPacked(ringOfSix(), 5) != -1 || impl.GrownPacked(ringOfSix(), 63) != -1 || impl.GrownPacked(allNeighbours(), 48) != -1 {
		t.Fatal("rings")
	}
	if impl.GrownPacked(starAt(6, 5), 3) != -1 || impl.GrownPacked(twoMiddles(), 3) != -1 || impl.GrownPacked(threePairs(), 33) != -1 || impl.GrownPacked(netOf(3, 0, 1), 7) != -1 {
		t.Fatal("a star, two middles and parts")
	}
}

func TestP85Invalid(t *testing.T) {
	for _, wrong := range wrongSets() {
		if impl.GrownPacked(wrong.net, wrong.set) != -1 {
			t.Fatal(wrong.net, wrong.set)
		}
	}
}

// askChapter11 calls each function of the chapter with a net and a set.
func askChapter11(net []int, set int) {
	impl.PackedOk(net, set)
	impl.MostPacked(net)
	impl.EfficientOk(net, set)
	impl.EfficientOf(net)
	impl.GrownPacked(net, set)
	impl.ForestOk(net)
}

func TestChapter11WritesNothing(t *testing.T) {
	for _, list := range listsToLend() {
		lentList := lent(list)
		for _, set := range setsToAsk() {
			askChapter11(lentList, set)
		}
		if !untouched(lentList, list) {
			t.Fatal(list)
		}
	}
}
