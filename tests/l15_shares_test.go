package tests

import (
	"testing"

	"loop.example/guardsonnets/impl"
)

// leastNearTold counts the neighbours of each place by those who have it as theirs.
func leastNearTold(net []int) int {
	least := len(net)
	for place := range net {
		many := 0
		for other := range net {
			if near(net, other, place) {
				many++
			}
		}
		least = min(least, many)
	}
	return least
}

// shareRowTold asks each place whether it sees each number, in itself or a neighbour.
func shareRowTold(net []int, row []int) bool {
	if len(row) != len(net) || !isCounting(row) {
		return false
	}
	for place := range net {
		for _, number := range row {
			if ballTold(net, place)&placesOf(row, number, number) == 0 {
				return false
			}
		}
	}
	return true
}

// mostSharesTold takes watches off sets of places: what is left can go to any share.
func mostSharesTold(net []int) int {
	watches := watchesTold(net)
	most := make([]int, len(watches))
	for set := range most {
		for watch, one := range watches {
			if one && set&watch == watch {
				most[set] = max(most[set], most[set-watch]+1)
			}
		}
	}
	return most[len(most)-1]
}

// firstShareRow returns the first of the rows that has as many shares.
func firstShareRow(net []int, rows [][]int, many int) []int {
	for _, row := range rows {
		if numbersIn(row) == many && shareRowTold(net, row) {
			return row
		}
	}
	return nil
}

func TestP61Most(t *testing.T) {
	for _, net := range manyNets() {
		if most := impl.MostShares(net); most != mostSharesTold(net) {
			t.Fatal(net, most)
		}
	}
}

func TestP61Bounds(t *testing.T) {
	for _, net := range netsUpTo(impl.MaxPlaces) {
		most := impl.MostShares(net)
		if most > impl.LeastNear(net)+1 || most*impl.FewestWatch(net) > len(net) || (most >= 2) != (impl.LoneOf(net) == 0) || most < 1 {
			t.Fatal(net, most)
		}
	}
}

func TestP61Examples(t *testing.T) {
	for places := 2; places <= impl.MaxPlaces; places++ {
		if impl.MostShares(make([]int, places)) != 1 || impl.MostShares(fullNet(places)) != places || impl.MostShares(starAt(places, 0)) != 2 || impl.MostShares(wayOf(places)) != 2 {
			t.Fatal(places)
		}
	}
	// A ring of six has three shares; those of four and five have two, though each place has two neighbours.
	if impl.MostShares([]int{0}) != 1 || impl.MostShares(ringOfSix()) != 3 || impl.MostShares(ringOfFour()) != 2 || impl.MostShares(ringOfFive()) != 2 || impl.MostShares(fullNet(3)) != 3 {
		t.Fatal("rings")
	}
	if impl.MostShares(prismOfSix()) != 3 || impl.MostShares(twoAndFour()) != 2 || impl.MostShares(threePairs()) != 2 || impl.MostShares(starAndTwo()) != 1 || impl.MostShares(netOf(3, 0, 1)) != 1 {
		t.Fatal("a prism and parts")
	}
}

func TestP61Invalid(t *testing.T) {
	for _, list := range notNets() {
		if impl.MostShares(list) != -1 {
			t.Fatal(list)
		}
	}
}

func TestP62Watch(t *testing.T) {
	for _, net := range netsUpTo(impl.MaxPlaces) {
		a, b := impl.WatchPair(net)
		if a != impl.FewestWatch(net) || b != impl.FewestWatch(otherTold(net)) {
			t.Fatal(net, a, b)
		}
		if a*b > len(net) || a+b > len(net)+1 {
			t.Fatal(net, a, b)
		}
	}
}

func TestP62Examples(t *testing.T) {
	for places := 1; places <= impl.MaxPlaces; places++ {
		a, b := impl.WatchPair(make([]int, places))
		c, d := impl.WatchPair(fullNet(places))
		if a != places || b != 1 || c != 1 || d != places {
			t.Fatal(places)
		}
	}
	a, b := impl.WatchPair(ringOfSix())
	if a != 2 || b != 2 {
		t.Fatal(a, b)
	}
	a, b = impl.WatchPair(threePairs())
	if a != 3 || b != 2 {
		t.Fatal(a, b)
	}
	a, b = impl.WatchPair(starAt(6, 5))
	if a != 1 || b != 2 {
		t.Fatal(a, b)
	}
}

func TestP62Invalid(t *testing.T) {
	for _, list := range notNets() {
		if a, b := impl.WatchPair(list); a != -1 || b != -1 {
			t.Fatal(list, a, b)
		}
	}
}

func TestP63Shares(t *testing.T) {
	for _, net := range manyNets() {
		if a, b := impl.SharePair(net); a != mostSharesTold(net) || b != mostSharesTold(otherTold(net)) {
			t.Fatal(net, a, b)
		}
	}
}

func TestP63Few(t *testing.T) {
	for _, net := range netsUpTo(impl.MaxPlaces) {
		if a, b := impl.SharePair(net); a < 1 || b < 1 || a+b > len(net)+1 {
			t.Fatal(net, a, b)
		}
	}
}

func TestP63Examples(t *testing.T) {
	for places := 1; places <= impl.MaxPlaces; places++ {
		a, b := impl.SharePair(make([]int, places))
		c, d := impl.SharePair(fullNet(places))
		if a != 1 || b != places || c != places || d != 1 {
			t.Fatal(places)
		}
	}
	a, b := impl.SharePair(ringOfSix())
	if a != 3 || b != 3 {
		t.Fatal(a, b)
	}
	a, b = impl.SharePair(threePairs())
	if a != 2 || b != 3 {
		t.Fatal(a, b)
	}
	a, b = impl.SharePair(starAt(6, 5))
	if a != 2 || b != 1 {
		t.Fatal(a, b)
	}
}

func TestP63Invalid(t *testing.T) {
	for _, list := range notNets() {
		if a, b := impl.SharePair(list); a != -1 || b != -1 {
			t.Fatal(list, a, b)
		}
	}
}

func TestP93Least(t *testing.T) {
	for _, net := range netsUpTo(impl.MaxPlaces) {
		least := impl.LeastNear(net)
		if least != leastNearTold(net) || (least == 0) != (impl.LoneOf(net) != 0) || 2*impl.WiresOf(net) < least*len(net) {
			t.Fatal(net, least)
		}
	}
}

func TestP93Examples(t *testing.T) {
	for places := 1; places <= impl.MaxPlaces; places++ {
		if impl.LeastNear(make([]int, places)) != 0 || impl.LeastNear(fullNet(places)) != places-1 || places > 1 && impl.LeastNear(starAt(places, 0)) != 1 {
			t.Fatal(places)
		}
	}
	if impl.LeastNear(ringOfSix()) != 2 || impl.LeastNear(prismOfSix()) != 3 || impl.LeastNear(twoAndFour()) != 2 || impl.LeastNear(threePairs()) != 1 || impl.LeastNear(starAndTwo()) != 0 || impl.LeastNear(netOf(3, 0, 1)) != 0 {
		t.Fatal("rings and parts")
	}
}

func TestP93Invalid(t *testing.T) {
	for _, list := range notNets() {
		if impl.LeastNear(list) != -1 {
			t.Fatal(list)
		}
	}
}

func TestP94SmallRows(t *testing.T) {
	for places := 1; places <= 4; places++ {
		rows := smallRows(places)
		for number := 0; number < 1<<pairsOf(places); number++ {
			net := numberedNet(places, number)
			for _, row := range rows {
				if impl.ShareRowOk(net, row) != shareRowTold(net, row) {
					t.Fatal(net, row)
				}
			}
		}
	}
}

func TestP94CountingRows(t *testing.T) {
	rows := countingUpTo(impl.MaxPlaces)
	for _, net := range manyNets() {
		for _, row := range rows[len(net)] {
			if impl.ShareRowOk(net, row) != shareRowTold(net, row) {
				t.Fatal(net, row)
			}
		}
	}
}

func TestP94EachShareWatches(t *testing.T) {
	rows := countingUpTo(impl.MaxPlaces)
	for _, net := range manyNets() {
		for _, row := range rows[len(net)] {
			all := true
			for number := 0; number < numbersIn(row); number++ {
				all = all && impl.WatchOk(net, placesOf(row, number, number))
			}
			if impl.ShareRowOk(net, row) != all {
				t.Fatal(net, row)
			}
		}
		if !impl.ShareRowOk(net, rowLike(len(net), 0)) || impl.ShareRowOk(net, rowLike(len(net), 1)) {
			t.Fatal(net)
		}
	}
}

func TestP94Examples(t *testing.T) {
	for places := 2; places <= impl.MaxPlaces; places++ {
		if !impl.ShareRowOk(fullNet(places), countFrom(places, 0)) || impl.ShareRowOk(make([]int, places), countFrom(places, 0)) || impl.ShareRowOk(fullNet(places), countFrom(places, 1)) {
			t.Fatal(places)
		}
	}
	if !impl.ShareRowOk([]int{0}, []int{0}) || impl.ShareRowOk([]int{0}, []int{1}) || impl.ShareRowOk([]int{0}, []int{-1}) || !impl.ShareRowOk([]int{2, 1}, []int{0, 1}) || impl.ShareRowOk([]int{2, 1}, []int{1, 0}) {
		t.Fatal("one place and two")
	}
	// The same shares, with numbers that skip one, or begin with 1; and a share that does not watch.
	if !impl.ShareRowOk(ringOfSix(), []int{0, 1, 2, 0, 1, 2}) || impl.ShareRowOk(ringOfSix(), []int{0, 2, 1, 0, 2, 1}) || impl.ShareRowOk(ringOfSix(), []int{0, 1, 3, 0, 1, 3}) || impl.ShareRowOk(ringOfSix(), []int{1, 2, 3, 1, 2, 3}) {
		t.Fatal("a ring")
	}
	if impl.ShareRowOk(ringOfSix(), []int{0, 1, 2, 0, 1, 1}) || impl.ShareRowOk(ringOfSix(), []int{0, 1, 2, 0, 2, 1}) || !impl.ShareRowOk(ringOfSix(), []int{0, 1, 1, 0, 1, 1}) || impl.ShareRowOk(ringOfSix(), []int{0, 0, 0, 1, 1, 1}) {
		t.Fatal("shares of a ring")
	}
	if impl.ShareRowOk(netOf(3, 0, 1), []int{0, 1, 0}) || impl.ShareRowOk(netOf(3, 0, 1), []int{0, 1, 2}) || !impl.ShareRowOk(netOf(3, 0, 1), []int{0, 0, 0}) || !impl.ShareRowOk(threePairs(), []int{0, 0, 1, 0, 1, 1}) || impl.ShareRowOk(threePairs(), []int{0, 0, 1, 1, 1, 0}) {
		t.Fatal("parts")
	}
}

func TestP94Invalid(t *testing.T) {
	for _, list := range notNets() {
		if impl.ShareRowOk(list, countFrom(len(list), 0)) || impl.ShareRowOk(list, rowLike(len(list), 0)) || impl.ShareRowOk(list, []int{0}) || impl.ShareRowOk(list, nil) {
			t.Fatal(list)
		}
	}
	for places := 1; places <= impl.MaxPlaces; places++ {
		for _, net := range [][]int{make([]int, places), fullNet(places), wayOf(places)} {
			for _, row := range append(bentRows(places), otherLengths(places)...) {
				if impl.ShareRowOk(net, row) {
					t.Fatal(net, row)
				}
			}
		}
	}
}

func TestP95First(t *testing.T) {
	rows := countingUpTo(impl.MaxPlaces)
	for _, net := range manyNets() {
		row := impl.ShareRow(net)
		if !sameList(row, firstShareRow(net, rows[len(net)], mostSharesTold(net))) {
			t.Fatal(net, row)
		}
	}
}

func TestP95Right(t *testing.T) {
	for _, net := range netsUpTo(impl.MaxPlaces) {
		row := impl.ShareRow(net)
		if !impl.ShareRowOk(net, row) || numbersIn(row) != impl.MostShares(net) {
			t.Fatal(net, row)
		}
	}
}

func TestP95Examples(t *testing.T) {
	for places := 1; places <= impl.MaxPlaces; places++ {
		if !sameList(impl.ShareRow(make([]int, places)), rowLike(places, 0)) || !sameList(impl.ShareRow(fullNet(places)), countFrom(places, 0)) {
			t.Fatal(places)
		}
	}
	if !sameList(impl.ShareRow(ringOfSix()), []int{0, 1, 2, 0, 1, 2}) || !sameList(impl.ShareRow(wayOf(4)), []int{0, 1, 0, 1}) || !sameList(impl.ShareRow(ringOfFour()), []int{0, 0, 1, 1}) {
		t.Fatal("rings and a way")
	}
	if !sameList(impl.ShareRow(starAt(6, 5)), []int{0, 0, 0, 0, 0, 1}) || !sameList(impl.ShareRow(starAt(6, 0)), []int{0, 1, 1, 1, 1, 1}) || !sameList(impl.ShareRow(threePairs()), []int{0, 0, 0, 1, 1, 1}) || !sameList(impl.ShareRow(netOf(3, 0, 1)), []int{0, 0, 0}) {
		t.Fatal("stars and parts")
	}
}

func TestP95Invalid(t *testing.T) {
	for _, list := range notNets() {
		if len(impl.ShareRow(list)) != 0 {
			t.Fatal(list)
		}
	}
}

func TestChapter15WritesNothing(t *testing.T) {
	rows := append(bentRows(3), countingRows(4)...)
	for _, list := range append(fewNets(), notNets()...) {
		lentList := lent(list)
		impl.LeastNear(lentList)
		impl.ShareRow(lentList)
		impl.MostShares(lentList)
		impl.WatchPair(lentList)
		impl.SharePair(lentList)
		for _, row := range rows {
			lentRow := lent(row)
			impl.ShareRowOk(lentList, lentRow)
			if !untouched(lentRow, row) {
				t.Fatal(list, row)
			}
		}
		if !untouched(lentList, list) {
			t.Fatal(list)
		}
	}
}

func TestChapter15AnswersAreNew(t *testing.T) {
	for _, net := range fewNets() {
		lentNet := lent(net)
		row := impl.ShareRow(lentNet)
		was := append([]int{}, row...)
		spoil(row)
		if !untouched(lentNet, net) || !sameList(impl.ShareRow(lentNet), was) {
			t.Fatal(net)
		}
	}
}
