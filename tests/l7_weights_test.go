package tests

import (
	"testing"

	"loop.example/guardsonnets/impl"
)

// romanTold asks each place whether it has a guard of its own, or a neighbour with two.
func romanTold(net []int, row []int) bool {
	for place := range net {
		helped := row[place] > 0
		for other := range net {
			helped = helped || near(net, place, other) && row[other] == 2
		}
		if !helped {
			return false
		}
	}
	return true
}

// italianTold lets each guard count at all neighbours of its place.
func italianTold(net []int, row []int) bool {
	counts := make([]int, len(net))
	for from, guards := range row {
		for to := range net {
			if near(net, from, to) {
				counts[to] += guards
			}
		}
	}
	for place, count := range counts {
		if row[place] == 0 && count < 2 {
			return false
		}
	}
	return true
}

// romanBySets looks for the least Roman row by the places with two guards alone.
func romanBySets(net []int) int {
	fewest := 2 * len(net)
	for set := 0; set < 1<<len(net); set++ {
		fewest = min(fewest, 2*size(set)+len(net)-size(seenTold(net, set)))
	}
	return fewest
}

// firstRoman returns the first of the rows with as many guards that is Roman.
func firstRoman(net []int, rows [][]int, guards int) []int {
	for _, row := range rows {
		if sumOf(row) == guards && romanTold(net, row) {
			return row
		}
	}
	return nil
}

// fewestItalianTold asks all rows with no guards, then with one, and so on.
func fewestItalianTold(net []int, rows [][]int) int {
	for guards := 0; ; guards++ {
		for _, row := range rows {
			if sumOf(row) == guards && italianTold(net, row) {
				return guards
			}
		}
	}
}

// ringOfFour is a ring of which two Italian guards take care, but not two Roman ones.
func ringOfFour() []int {
	return netOf(4, 0, 1, 1, 2, 2, 3, 3, 0)
}

func TestP34Roman(t *testing.T) {
	rows := rowsUpTo(impl.MaxPlaces)
	for _, net := range manyNets() {
		for _, row := range rows[len(net)] {
			if impl.RomanOk(net, row) != romanTold(net, row) {
				t.Fatal(net, row)
			}
		}
	}
}

func TestP34Watches(t *testing.T) {
	rows := rowsUpTo(impl.MaxPlaces)
	for _, net := range manyNets() {
		for _, row := range rows[len(net)] {
			if !impl.RomanOk(net, row) {
				continue
			}
			seen := impl.SeenBy(net, placesOf(row, 2, 2))
			if !impl.WatchOk(net, placesOf(row, 1, 2)) || !impl.ItalianOk(net, row) || placesOf(row, 0, 0)&^seen != 0 {
				t.Fatal(net, row)
			}
		}
	}
}

func TestP34Examples(t *testing.T) {
	for places := 1; places <= impl.MaxPlaces; places++ {
		for _, net := range [][]int{make([]int, places), fullNet(places), starAt(places, 0)} {
			if !impl.RomanOk(net, rowLike(places, 1)) || !impl.RomanOk(net, rowLike(places, 2)) || impl.RomanOk(net, rowLike(places, 0)) {
				t.Fatal(net)
			}
		}
	}
	if !impl.RomanOk([]int{2, 1}, []int{0, 2}) || !impl.RomanOk([]int{2, 1}, []int{2, 0}) || impl.RomanOk([]int{2, 1}, []int{1, 0}) {
		t.Fatal("two places")
	}
	if impl.RomanOk(make([]int, 6), []int{2, 2, 2, 2, 2, 0}) || !impl.RomanOk(make([]int, 6), []int{1, 2, 1, 2, 1, 1}) {
		t.Fatal("no wires")
	}
	// Two guards at one place help all, one guard each at two places none.
	if !impl.RomanOk(allNeighbours(), []int{0, 0, 0, 2, 0, 0}) || impl.RomanOk(allNeighbours(), []int{1, 1, 0, 0, 0, 0}) || impl.RomanOk(allNeighbours(), []int{1, 1, 1, 1, 1, 0}) {
		t.Fatal("all are neighbours")
	}
	if !impl.RomanOk(ringOfSix(), []int{2, 0, 0, 2, 0, 0}) || !impl.RomanOk(ringOfSix(), []int{2, 0, 1, 0, 2, 0}) || impl.RomanOk(ringOfSix(), []int{2, 0, 0, 1, 0, 2}) {
		t.Fatal("a ring")
	}
	if !impl.RomanOk(starAt(6, 5), []int{0, 0, 0, 0, 0, 2}) || impl.RomanOk(starAt(6, 5), []int{2, 0, 0, 0, 0, 0}) || !impl.RomanOk(threePairs(), []int{2, 0, 1, 1, 2, 0}) || impl.RomanOk(netOf(3, 0, 1), []int{2, 0, 0}) {
		t.Fatal("a star and parts")
	}
}

func TestP34Invalid(t *testing.T) {
	for _, wrong := range wrongRows() {
		if impl.RomanOk(wrong.net, wrong.row) {
			t.Fatal(wrong.net, wrong.row)
		}
	}
}

func TestP35First(t *testing.T) {
	rows := rowsUpTo(impl.MaxPlaces)
	for _, net := range netsUpTo(impl.MaxPlaces) {
		row := impl.RomanRow(net)
		if !sameList(row, firstRoman(net, rows[len(net)], romanBySets(net))) {
			t.Fatal(net, row)
		}
	}
}

func TestP35Roman(t *testing.T) {
	for _, net := range manyNets() {
		row := impl.RomanRow(net)
		seen := impl.SeenBy(net, placesOf(row, 2, 2))
		if !impl.RomanOk(net, row) || sumOf(row) != impl.FewestRoman(net) || placesOf(row, 1, 1)&seen != 0 {
			t.Fatal(net, row)
		}
	}
}

func TestP35Examples(t *testing.T) {
	for places := 1; places <= impl.MaxPlaces; places++ {
		if !sameList(impl.RomanRow(make([]int, places)), rowLike(places, 1)) {
			t.Fatal(places)
		}
	}
	if !sameList(impl.RomanRow([]int{2, 1}), []int{0, 2}) || !sameList(impl.RomanRow(allNeighbours()), []int{0, 0, 0, 0, 0, 2}) {
		t.Fatal("all are neighbours")
	}
	if !sameList(impl.RomanRow(starAt(6, 5)), []int{0, 0, 0, 0, 0, 2}) || !sameList(impl.RomanRow(starAt(6, 0)), []int{2, 0, 0, 0, 0, 0}) || !sameList(impl.RomanRow(starAt(6, 2)), []int{0, 0, 2, 0, 0, 0}) {
		t.Fatal("stars")
	}
	if !sameList(impl.RomanRow(ringOfSix()), []int{0, 0, 2, 0, 0, 2}) || !sameList(impl.RomanRow(wayOf(5)), []int{0, 2, 0, 0, 2}) || !sameList(impl.RomanRow(twoMiddles()), []int{0, 2, 1, 1, 0, 0}) {
		t.Fatal("a ring, a way and two middles")
	}
	if !sameList(impl.RomanRow(netOf(3, 0, 1)), []int{0, 2, 1}) || !sameList(impl.RomanRow(threePairs()), []int{0, 0, 0, 2, 2, 2}) || !sameList(impl.RomanRow(starAndTwo()), []int{2, 0, 0, 0, 1, 1}) {
		t.Fatal("parts")
	}
}

func TestP35Invalid(t *testing.T) {
	for _, list := range notNets() {
		if len(impl.RomanRow(list)) != 0 {
			t.Fatal(list)
		}
	}
}

func TestP36Fewest(t *testing.T) {
	for _, net := range netsUpTo(impl.MaxPlaces) {
		fewest := impl.FewestRoman(net)
		watch := impl.FewestWatch(net)
		if fewest != romanBySets(net) || fewest < watch || fewest > 2*watch || (fewest == watch) != (impl.WiresOf(net) == 0) {
			t.Fatal(net, fewest)
		}
	}
}

func TestP36ItalianIsNoMore(t *testing.T) {
	for _, net := range manyNets() {
		if impl.FewestRoman(net) < impl.FewestItalian(net) {
			t.Fatal(net)
		}
	}
}

func TestP36EachSet(t *testing.T) {
	for _, net := range manyNets() {
		fewest := impl.FewestRoman(net)
		some := false
		for set := 0; set < 1<<len(net); set++ {
			guards := 2*size(set) + len(net) - size(impl.SeenBy(net, set))
			if guards < fewest {
				t.Fatal(net, set)
			}
			some = some || guards == fewest
		}
		if !some {
			t.Fatal(net)
		}
	}
}

func TestP36Examples(t *testing.T) {
	for places := 2; places <= impl.MaxPlaces; places++ {
		if impl.FewestRoman(make([]int, places)) != places || impl.FewestRoman(fullNet(places)) != 2 || impl.FewestRoman(starAt(places, places-1)) != 2 {
			t.Fatal(places)
		}
	}
	if impl.FewestRoman([]int{0}) != 1 || impl.FewestRoman([]int{2, 1}) != 2 || impl.FewestRoman(ringOfSix()) != 4 || impl.FewestRoman(ringOfFour()) != 3 || impl.FewestRoman(wayOf(4)) != 3 || impl.FewestRoman(wayOf(5)) != 4 {
		t.Fatal("rings and ways")
	}
	if impl.FewestRoman(twoMiddles()) != 4 || impl.FewestRoman(threePairs()) != 6 || impl.FewestRoman(netOf(3, 0, 1)) != 3 || impl.FewestRoman(starAndTwo()) != 4 {
		t.Fatal("two middles and parts")
	}
}

func TestP36Invalid(t *testing.T) {
	for _, list := range notNets() {
		if impl.FewestRoman(list) != -1 {
			t.Fatal(list)
		}
	}
}

func TestP37Fewest(t *testing.T) {
	rows := rowsUpTo(impl.MaxPlaces)
	for _, net := range manyNets() {
		if fewest := impl.FewestItalian(net); fewest != fewestItalianTold(net, rows[len(net)]) {
			t.Fatal(net, fewest)
		}
	}
}

func TestP37Between(t *testing.T) {
	for _, net := range netsUpTo(impl.MaxPlaces) {
		fewest := impl.FewestItalian(net)
		if fewest < impl.FewestWatch(net) || fewest > impl.FewestRoman(net) || fewest > len(net) {
			t.Fatal(net, fewest)
		}
	}
}

func TestP37Examples(t *testing.T) {
	for places := 2; places <= impl.MaxPlaces; places++ {
		if impl.FewestItalian(make([]int, places)) != places || impl.FewestItalian(fullNet(places)) != 2 || impl.FewestItalian(starAt(places, 0)) != 2 {
			t.Fatal(places)
		}
	}
	// One guard each at two places can be enough where two Roman guards are not.
	if impl.FewestItalian([]int{0}) != 1 || impl.FewestItalian([]int{2, 1}) != 2 || impl.FewestItalian(ringOfSix()) != 3 || impl.FewestItalian(ringOfFour()) != 2 || impl.FewestItalian(wayOf(4)) != 3 || impl.FewestItalian(wayOf(5)) != 3 {
		t.Fatal("rings and ways")
	}
	if impl.FewestItalian(twoMiddles()) != 4 || impl.FewestItalian(threePairs()) != 6 || impl.FewestItalian(netOf(3, 0, 1)) != 3 || impl.FewestItalian(starAndTwo()) != 4 {
		t.Fatal("two middles and parts")
	}
}

func TestP37Invalid(t *testing.T) {
	for _, list := range notNets() {
		if impl.FewestItalian(list) != -1 {
			t.Fatal(list)
		}
	}
}

func TestP77Italian(t *testing.T) {
	rows := rowsUpTo(impl.MaxPlaces)
	for _, net := range manyNets() {
		for _, row := range rows[len(net)] {
			if impl.ItalianOk(net, row) != italianTold(net, row) {
				t.Fatal(net, row)
			}
		}
	}
}

func TestP77Watches(t *testing.T) {
	rows := rowsUpTo(impl.MaxPlaces)
	for _, net := range manyNets() {
		for _, row := range rows[len(net)] {
			if impl.ItalianOk(net, row) && !impl.WatchOk(net, placesOf(row, 1, 2)) {
				t.Fatal(net, row)
			}
		}
	}
}

func TestP77Examples(t *testing.T) {
	for places := 1; places <= impl.MaxPlaces; places++ {
		for _, net := range [][]int{make([]int, places), fullNet(places), starAt(places, 0)} {
			if !impl.ItalianOk(net, rowLike(places, 1)) || !impl.ItalianOk(net, rowLike(places, 2)) || impl.ItalianOk(net, rowLike(places, 0)) {
				t.Fatal(net)
			}
		}
	}
	if !impl.ItalianOk([]int{2, 1}, []int{0, 2}) || impl.ItalianOk([]int{2, 1}, []int{1, 0}) || impl.ItalianOk(make([]int, 6), []int{2, 2, 2, 2, 2, 0}) {
		t.Fatal("two places and no wires")
	}
	if !impl.ItalianOk(allNeighbours(), []int{1, 1, 0, 0, 0, 0}) || !impl.ItalianOk(allNeighbours(), []int{0, 0, 0, 0, 0, 2}) || impl.ItalianOk(allNeighbours(), []int{0, 0, 1, 0, 0, 0}) {
		t.Fatal("all are neighbours")
	}
	if !impl.ItalianOk(ringOfFour(), []int{1, 0, 1, 0}) || !impl.ItalianOk(ringOfFour(), []int{1, 0, 2, 0}) || impl.ItalianOk(ringOfFour(), []int{2, 0, 0, 0}) || impl.ItalianOk(ringOfFour(), []int{1, 1, 0, 0}) {
		t.Fatal("a ring of four")
	}
	if !impl.ItalianOk(ringOfSix(), []int{0, 1, 0, 1, 0, 1}) || impl.ItalianOk(ringOfSix(), []int{0, 1, 0, 1, 1, 0}) || !impl.ItalianOk(starAt(6, 5), []int{1, 1, 1, 1, 1, 0}) || !impl.ItalianOk(starAt(6, 5), []int{0, 0, 0, 0, 0, 2}) {
		t.Fatal("a ring and a star")
	}
	if !impl.ItalianOk(threePairs(), []int{2, 0, 1, 1, 2, 0}) || impl.ItalianOk(netOf(3, 0, 1), []int{2, 0, 0}) {
		t.Fatal("parts")
	}
}

func TestP77Invalid(t *testing.T) {
	for _, wrong := range wrongRows() {
		if impl.ItalianOk(wrong.net, wrong.row) {
			t.Fatal(wrong.net, wrong.row)
		}
	}
}

func TestP78Rows(t *testing.T) {
	for _, net := range netsUpTo(impl.MaxPlaces) {
		for set := 0; set < 1<<len(net); set++ {
			row := impl.RowOfSet(net, set)
			seen := seenTold(net, set)
			all := 1<<len(net) - 1
			if len(row) != len(net) || placesOf(row, 2, 2) != set || placesOf(row, 0, 0) != seen-set || placesOf(row, 1, 1) != all-seen {
				t.Fatal(net, set, row)
			}
		}
	}
}

func TestP78Roman(t *testing.T) {
	for _, net := range netsUpTo(impl.MaxPlaces) {
		for set := 0; set < 1<<len(net); set++ {
			row := impl.RowOfSet(net, set)
			if !impl.RomanOk(net, row) || sumOf(row) != 2*size(set)+len(net)-size(impl.SeenBy(net, set)) {
				t.Fatal(net, set, row)
			}
		}
	}
}

func TestP78Examples(t *testing.T) {
	for places := 1; places <= impl.MaxPlaces; places++ {
		for _, net := range [][]int{make([]int, places), fullNet(places), starAt(places, 0)} {
			if !sameList(impl.RowOfSet(net, 0), rowLike(places, 1)) || !sameList(impl.RowOfSet(net, 1<<places-1), rowLike(places, 2)) {
				t.Fatal(net)
			}
		}
	}
	if !sameList(impl.RowOfSet(make([]int, 6), 33), []int{2, 1, 1, 1, 1, 2}) || !sameList(impl.RowOfSet(allNeighbours(), 4), []int{0, 0, 2, 0, 0, 0}) {
		t.Fatal("none and all are neighbours")
	}
	// Places with guards that see each other have two all the same.
	if !sameList(impl.RowOfSet(ringOfSix(), 1), []int{2, 0, 1, 1, 1, 0}) || !sameList(impl.RowOfSet(ringOfSix(), 3), []int{2, 2, 0, 1, 1, 0}) || !sameList(impl.RowOfSet(threePairs(), 5), []int{2, 1, 2, 0, 1, 0}) {
		t.Fatal("a ring and parts")
	}
}

func TestP78Invalid(t *testing.T) {
	for _, wrong := range wrongSets() {
		if len(impl.RowOfSet(wrong.net, wrong.set)) != 0 {
			t.Fatal(wrong.net, wrong.set)
		}
	}
}

func TestChapter7WritesNothing(t *testing.T) {
	for _, list := range listsToLend() {
		lentList := lent(list)
		impl.RomanRow(lentList)
		impl.FewestRoman(lentList)
		impl.FewestItalian(lentList)
		for _, set := range setsToAsk() {
			impl.RowOfSet(lentList, set)
		}
		if !untouched(lentList, list) {
			t.Fatal(list)
		}
	}
}

func TestChapter7WritesNoRow(t *testing.T) {
	rows := rowsToAsk()
	for _, list := range append(netsUpTo(3), ringOfFour(), starAt(5, 0), ringOfSix(), allNeighbours(), nil, []int{1}, make([]int, 7)) {
		lentList := lent(list)
		for _, row := range rows {
			lentRow := lent(row)
			impl.RomanOk(lentList, lentRow)
			impl.ItalianOk(lentList, lentRow)
			if !untouched(lentList, list) || !untouched(lentRow, row) {
				t.Fatal(list, row)
			}
		}
	}
}

func TestChapter7AnswersAreNew(t *testing.T) {
	for _, net := range manyNets() {
		lentNet := lent(net)
		row := impl.RomanRow(lentNet)
		of := impl.RowOfSet(lentNet, 1)
		wasRow := append([]int{}, row...)
		wasOf := append([]int{}, of...)
		spoil(row)
		spoil(of)
		if !untouched(lentNet, net) || !sameList(impl.RomanRow(lentNet), wasRow) || !sameList(impl.RowOfSet(lentNet, 1), wasOf) {
			t.Fatal(net)
		}
	}
}
