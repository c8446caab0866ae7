package tests

import (
	"testing"

	"loop.example/guardsonnets/impl"
)

// cliqueTold asks each two places of a set whether they are neighbours.
func cliqueTold(net []int, set int) bool {
	for b := range net {
		for a := 0; a < b; a++ {
			if has(set, a) && has(set, b) && !near(net, a, b) {
				return false
			}
		}
	}
	return true
}

// cliquesTold tells for each set of a net, by its number, whether it is a clique.
func cliquesTold(net []int) []bool {
	cliques := make([]bool, 1<<len(net))
	for set := range cliques {
		cliques[set] = cliqueTold(net, set)
	}
	return cliques
}

// cliqueRowTold asks each two places with the same number whether they are neighbours.
func cliqueRowTold(net []int, row []int) bool {
	if len(row) != len(net) || !isCounting(row) {
		return false
	}
	for b := range net {
		for a := 0; a < b; a++ {
			if row[a] == row[b] && !near(net, a, b) {
				return false
			}
		}
	}
	return true
}

// fewestCliquesTold takes cliques off sets of places: each set takes one more than what is left of it
// without the best clique.
func fewestCliquesTold(net []int) int {
	cliques := cliquesTold(net)
	fewest := make([]int, len(cliques))
	for set := 1; set < len(fewest); set++ {
		fewest[set] = len(net)
		for clique, one := range cliques {
			if one && clique != 0 && set&clique == clique {
				fewest[set] = min(fewest[set], fewest[set-clique]+1)
			}
		}
	}
	return fewest[len(fewest)-1]
}

// firstCliqueRow returns the first of the rows that has as many cliques.
func firstCliqueRow(net []int, rows [][]int, many int) []int {
	for _, row := range rows {
		if numbersIn(row) == many && cliqueRowTold(net, row) {
			return row
		}
	}
	return nil
}

// otherTold makes a net of all pairs that are no wires.
func otherTold(net []int) []int {
	ends := []int{}
	for b := range net {
		for a := 0; a < b; a++ {
			if !near(net, a, b) {
				ends = append(ends, b, a)
			}
		}
	}
	return netOf(len(net), ends...)
}

// ringOfFive takes one guard more for ever than can be apart.
func ringOfFive() []int {
	return []int{18, 5, 10, 20, 9}
}

// countFrom is a row that counts from a number on.
func countFrom(places int, first int) []int {
	row := make([]int, places)
	for place := range row {
		row[place] = first + place
	}
	return row
}

func TestP54Clique(t *testing.T) {
	for _, net := range netsUpTo(impl.MaxPlaces) {
		for set, told := range cliquesTold(net) {
			if impl.CliqueOk(net, set) != told {
				t.Fatal(net, set)
			}
		}
	}
}

func TestP54OneGuardSeesAll(t *testing.T) {
	for _, net := range netsUpTo(impl.MaxPlaces) {
		other := impl.OtherNet(net)
		for set := 0; set < 1<<len(net); set++ {
			clique := impl.CliqueOk(net, set)
			if clique != impl.ApartOk(other, set) {
				t.Fatal(net, set)
			}
			for place := range net {
				if clique && has(set, place) && set&^impl.BallOf(net, place) != 0 {
					t.Fatal(net, set, place)
				}
			}
		}
	}
}

func TestP54Examples(t *testing.T) {
	for places := 1; places <= impl.MaxPlaces; places++ {
		for _, net := range [][]int{make([]int, places), fullNet(places), starAt(places, 0)} {
			if !impl.CliqueOk(net, 0) || !impl.CliqueOk(net, 1) || !impl.CliqueOk(net, 1<<(places-1)) {
				t.Fatal(net)
			}
		}
		if !impl.CliqueOk(fullNet(places), 1<<places-1) || impl.CliqueOk(make([]int, places), 1<<places-1) != (places == 1) {
			t.Fatal(places)
		}
	}
	if !impl.CliqueOk(allNeighbours(), 42) || impl.CliqueOk(make([]int, 6), 3) || impl.CliqueOk(make([]int, 6), 48) {
		t.Fatal("none and all are neighbours")
	}
	// Two of three pairs are neighbours, or all three.
	if impl.CliqueOk(wayOf(3), 7) || !impl.CliqueOk(wayOf(3), 3) || impl.CliqueOk(wayOf(3), 5) || !impl.CliqueOk(prismOfSix(), 7) || !impl.CliqueOk(prismOfSix(), 56) || impl.CliqueOk(prismOfSix(), 11) {
		t.Fatal("a way and a prism")
	}
	if impl.CliqueOk(starAt(6, 5), 35) || !impl.CliqueOk(starAt(6, 5), 33) || !impl.CliqueOk(threePairs(), 33) || impl.CliqueOk(threePairs(), 3) || impl.CliqueOk(ringOfSix(), 35) || !impl.CliqueOk(ringOfSix(), 33) {
		t.Fatal("a star, pairs and a ring")
	}
}

func TestP54Invalid(t *testing.T) {
	for _, wrong := range wrongSets() {
		if impl.CliqueOk(wrong.net, wrong.set) {
			t.Fatal(wrong.net, wrong.set)
		}
	}
}

func TestP55Most(t *testing.T) {
	for _, net := range netsUpTo(impl.MaxPlaces) {
		if most := impl.MostClique(net); most != mostOf(cliquesTold(net)) {
			t.Fatal(net, most)
		}
	}
}

func TestP55ApartInTheOtherNet(t *testing.T) {
	for _, net := range netsUpTo(impl.MaxPlaces) {
		most := impl.MostClique(net)
		if most != impl.MostApart(impl.OtherNet(net)) || (most == 1) != (impl.WiresOf(net) == 0) {
			t.Fatal(net, most)
		}
	}
}

func TestP55Examples(t *testing.T) {
	for places := 2; places <= impl.MaxPlaces; places++ {
		if impl.MostClique(make([]int, places)) != 1 || impl.MostClique(fullNet(places)) != places || impl.MostClique(starAt(places, 0)) != 2 || impl.MostClique(wayOf(places)) != 2 {
			t.Fatal(places)
		}
	}
	if impl.MostClique([]int{0}) != 1 || impl.MostClique(ringOfSix()) != 2 || impl.MostClique(prismOfSix()) != 3 || impl.MostClique(threePairs()) != 2 || impl.MostClique(twoAndFour()) != 2 {
		t.Fatal("rings and parts")
	}
	if impl.MostClique(netOf(6, 0, 2, 2, 4, 4, 0, 1, 3)) != 3 || impl.MostClique(impl.OtherNet(threePairs())) != 3 || impl.MostClique(netOf(5, 1, 2, 1, 3, 1, 4, 2, 3, 2, 4, 3, 4)) != 4 {
		t.Fatal("three and four")
	}
}

func TestP55Invalid(t *testing.T) {
	for _, list := range notNets() {
		if impl.MostClique(list) != -1 {
			t.Fatal(list)
		}
	}
}

func TestP56Fewest(t *testing.T) {
	for _, net := range netsUpTo(impl.MaxPlaces) {
		if fewest := impl.FewestCliques(net); fewest != fewestCliquesTold(net) {
			t.Fatal(net, fewest)
		}
	}
}

func TestP56AGuardForEachClique(t *testing.T) {
	for _, net := range netsUpTo(impl.MaxPlaces) {
		fewest := impl.FewestCliques(net)
		apart := impl.MostApart(net)
		if fewest < apart || fewest < impl.FewestEternal(net) || fewest*impl.MostClique(net) < len(net) || impl.ForestOk(net) && fewest != apart {
			t.Fatal(net, fewest)
		}
	}
}

func TestP56Examples(t *testing.T) {
	for places := 2; places <= impl.MaxPlaces; places++ {
		if impl.FewestCliques(make([]int, places)) != places || impl.FewestCliques(fullNet(places)) != 1 || impl.FewestCliques(starAt(places, 0)) != places-1 || impl.FewestCliques(wayOf(places)) != (places+1)/2 {
			t.Fatal(places)
		}
	}
	// A ring of five takes three cliques, though two are apart at most.
	if impl.FewestCliques([]int{0}) != 1 || impl.FewestCliques(ringOfFive()) != 3 || impl.MostApart(ringOfFive()) != 2 || impl.FewestCliques(ringOfSix()) != 3 {
		t.Fatal("rings")
	}
	if impl.FewestCliques(prismOfSix()) != 2 || impl.FewestCliques(threePairs()) != 3 || impl.FewestCliques(twoAndFour()) != 4 || impl.FewestCliques(starAndTwo()) != 5 || impl.FewestCliques(twoMiddles()) != 4 {
		t.Fatal("a prism and parts")
	}
}

func TestP56Invalid(t *testing.T) {
	for _, list := range notNets() {
		if impl.FewestCliques(list) != -1 {
			t.Fatal(list)
		}
	}
}

func TestP57Other(t *testing.T) {
	for _, net := range netsUpTo(impl.MaxPlaces) {
		if other := impl.OtherNet(net); !sameList(other, otherTold(net)) {
			t.Fatal(net, other)
		}
	}
}

func TestP57OfTheOther(t *testing.T) {
	for _, net := range netsUpTo(impl.MaxPlaces) {
		other := impl.OtherNet(net)
		if !impl.NetOk(other) || !sameList(impl.OtherNet(other), net) || impl.WiresOf(net)+impl.WiresOf(other) != pairsOf(len(net)) {
			t.Fatal(net, other)
		}
		if impl.PartMany(net) != 1 && impl.PartMany(other) != 1 {
			t.Fatal(net, other)
		}
	}
}

func TestP57Examples(t *testing.T) {
	for places := 1; places <= impl.MaxPlaces; places++ {
		if !sameList(impl.OtherNet(make([]int, places)), fullNet(places)) || !sameList(impl.OtherNet(fullNet(places)), make([]int, places)) {
			t.Fatal(places)
		}
	}
	if !sameList(impl.OtherNet([]int{0}), []int{0}) || !sameList(impl.OtherNet(wayOf(3)), []int{4, 0, 1}) || !sameList(impl.OtherNet(ringOfSix()), []int{28, 56, 49, 35, 7, 14}) {
		t.Fatal("a way and a ring")
	}
	if !sameList(impl.OtherNet(starAt(4, 0)), []int{0, 12, 10, 6}) || !sameList(impl.OtherNet(threePairs()), []int{30, 45, 51, 51, 45, 30}) || !sameList(impl.OtherNet(ringOfFive()), []int{12, 24, 17, 3, 6}) {
		t.Fatal("a star, pairs and a ring of five")
	}
}

func TestP57Invalid(t *testing.T) {
	for _, list := range notNets() {
		if len(impl.OtherNet(list)) != 0 {
			t.Fatal(list)
		}
	}
}

func TestP58Row(t *testing.T) {
	for _, net := range manyNets() {
		watch := fewestOf(watchesTold(net))
		all := impl.FewestAllEternal(net)
		apart := mostOf(apartsTold(net))
		eternal := fewestOf(eternalsTold(net))
		if row := impl.GuardRow(net); !sameList(row, []int{watch, all, apart, eternal, fewestCliquesTold(net)}) {
			t.Fatal(net, row)
		}
	}
}

func TestP58NeverFall(t *testing.T) {
	for _, net := range manyNets() {
		row := impl.GuardRow(net)
		ahead := 1
		for _, number := range row {
			if number < ahead {
				t.Fatal(net, row)
			}
			ahead = number
		}
		if len(row) != 5 || ahead > len(net) {
			t.Fatal(net, row)
		}
	}
}

func TestP58Examples(t *testing.T) {
	for places := 2; places <= impl.MaxPlaces; places++ {
		if !sameList(impl.GuardRow(make([]int, places)), []int{places, places, places, places, places}) || !sameList(impl.GuardRow(fullNet(places)), []int{1, 1, 1, 1, 1}) {
			t.Fatal(places)
		}
		if !sameList(impl.GuardRow(starAt(places, 0)), []int{1, min(2, places-1), places - 1, places - 1, places - 1}) {
			t.Fatal(places)
		}
	}
	if !sameList(impl.GuardRow([]int{0}), []int{1, 1, 1, 1, 1}) || !sameList(impl.GuardRow(ringOfFive()), []int{2, 2, 2, 3, 3}) || !sameList(impl.GuardRow(ringOfSix()), []int{2, 2, 3, 3, 3}) {
		t.Fatal("rings")
	}
	if !sameList(impl.GuardRow(threePairs()), []int{3, 3, 3, 3, 3}) || !sameList(impl.GuardRow(starAndTwo()), []int{3, 4, 5, 5, 5}) || !sameList(impl.GuardRow(wayOf(5)), []int{2, 3, 3, 3, 3}) {
		t.Fatal("parts and a way")
	}
}

func TestP58Invalid(t *testing.T) {
	for _, list := range notNets() {
		if len(impl.GuardRow(list)) != 0 {
			t.Fatal(list)
		}
	}
}

func TestP87SmallRows(t *testing.T) {
	for places := 1; places <= 4; places++ {
		rows := smallRows(places)
		for number := 0; number < 1<<pairsOf(places); number++ {
			net := numberedNet(places, number)
			for _, row := range rows {
				if impl.CliqueRowOk(net, row) != cliqueRowTold(net, row) {
					t.Fatal(net, row)
				}
			}
		}
	}
}

func TestP87CountingRows(t *testing.T) {
	rows := countingUpTo(impl.MaxPlaces)
	for _, net := range netsUpTo(impl.MaxPlaces) {
		for _, row := range rows[len(net)] {
			if impl.CliqueRowOk(net, row) != cliqueRowTold(net, row) {
				t.Fatal(net, row)
			}
		}
	}
}

func TestP87EachNumberIsAClique(t *testing.T) {
	rows := countingUpTo(impl.MaxPlaces)
	for _, net := range manyNets() {
		for _, row := range rows[len(net)] {
			all := true
			for number := range net {
				all = all && impl.CliqueOk(net, placesOf(row, number, number))
			}
			if impl.CliqueRowOk(net, row) != all {
				t.Fatal(net, row)
			}
		}
		if !impl.CliqueRowOk(net, countFrom(len(net), 0)) || impl.CliqueRowOk(net, countFrom(len(net), 1)) {
			t.Fatal(net)
		}
	}
}

func TestP87Examples(t *testing.T) {
	for places := 2; places <= impl.MaxPlaces; places++ {
		if !impl.CliqueRowOk(fullNet(places), rowLike(places, 0)) || impl.CliqueRowOk(make([]int, places), rowLike(places, 0)) || impl.CliqueRowOk(fullNet(places), rowLike(places, 1)) {
			t.Fatal(places)
		}
	}
	if !impl.CliqueRowOk([]int{0}, []int{0}) || impl.CliqueRowOk([]int{0}, []int{1}) || impl.CliqueRowOk([]int{0}, []int{-1}) {
		t.Fatal("one place")
	}
	// The same cliques, with numbers that skip one, or begin with 1, or are 0 late.
	if !impl.CliqueRowOk(threePairs(), []int{0, 1, 2, 2, 1, 0}) || impl.CliqueRowOk(threePairs(), []int{0, 2, 1, 1, 2, 0}) || impl.CliqueRowOk(threePairs(), []int{0, 1, 3, 3, 1, 0}) || impl.CliqueRowOk(threePairs(), []int{1, 2, 3, 3, 2, 1}) || impl.CliqueRowOk(threePairs(), []int{1, 0, 2, 2, 0, 1}) {
		t.Fatal("pairs")
	}
	if !impl.CliqueRowOk(prismOfSix(), []int{0, 0, 0, 1, 1, 1}) || !impl.CliqueRowOk(prismOfSix(), []int{0, 1, 2, 0, 1, 2}) || impl.CliqueRowOk(prismOfSix(), []int{0, 0, 1, 1, 1, 0}) {
		t.Fatal("a prism")
	}
	if impl.CliqueRowOk(wayOf(3), []int{0, 0, 0}) || !impl.CliqueRowOk(wayOf(3), []int{0, 0, 1}) || !impl.CliqueRowOk(wayOf(3), []int{0, 1, 1}) || impl.CliqueRowOk(wayOf(3), []int{0, 1, 0}) {
		t.Fatal("a way")
	}
}

func TestP87Invalid(t *testing.T) {
	for _, list := range notNets() {
		if impl.CliqueRowOk(list, countFrom(len(list), 0)) || impl.CliqueRowOk(list, rowLike(len(list), 0)) || impl.CliqueRowOk(list, []int{0}) || impl.CliqueRowOk(list, nil) {
			t.Fatal(list)
		}
	}
	for places := 1; places <= impl.MaxPlaces; places++ {
		for _, net := range [][]int{make([]int, places), fullNet(places), wayOf(places)} {
			for _, row := range append(bentRows(places), otherLengths(places)...) {
				if impl.CliqueRowOk(net, row) {
					t.Fatal(net, row)
				}
			}
		}
	}
}

func TestP88First(t *testing.T) {
	rows := countingUpTo(impl.MaxPlaces)
	for _, net := range netsUpTo(impl.MaxPlaces) {
		row := impl.CliqueRow(net)
		if !sameList(row, firstCliqueRow(net, rows[len(net)], fewestCliquesTold(net))) {
			t.Fatal(net, row)
		}
	}
}

func TestP88Right(t *testing.T) {
	for _, net := range netsUpTo(impl.MaxPlaces) {
		row := impl.CliqueRow(net)
		if !impl.CliqueRowOk(net, row) || numbersIn(row) != impl.FewestCliques(net) {
			t.Fatal(net, row)
		}
	}
}

func TestP88Examples(t *testing.T) {
	for places := 1; places <= impl.MaxPlaces; places++ {
		if !sameList(impl.CliqueRow(make([]int, places)), countFrom(places, 0)) || !sameList(impl.CliqueRow(fullNet(places)), rowLike(places, 0)) {
			t.Fatal(places)
		}
	}
	if !sameList(impl.CliqueRow(ringOfSix()), []int{0, 0, 1, 1, 2, 2}) || !sameList(impl.CliqueRow(ringOfFive()), []int{0, 0, 1, 1, 2}) || !sameList(impl.CliqueRow(prismOfSix()), []int{0, 0, 0, 1, 1, 1}) {
		t.Fatal("rings")
	}
	// The first place cannot share here with the first neighbour that it has, if so few are to be enough.
	if !sameList(impl.CliqueRow(netOf(4, 0, 1, 1, 2, 0, 3)), []int{0, 1, 1, 0}) || !sameList(impl.CliqueRow(twoMiddles()), []int{0, 1, 0, 2, 1, 3}) {
		t.Fatal("ways and two middles")
	}
	if !sameList(impl.CliqueRow(threePairs()), []int{0, 1, 2, 2, 1, 0}) || !sameList(impl.CliqueRow(starAt(6, 5)), []int{0, 1, 2, 3, 4, 0}) || !sameList(impl.CliqueRow(netOf(3, 1, 2)), []int{0, 1, 1}) {
		t.Fatal("parts and a star")
	}
}

func TestP88Invalid(t *testing.T) {
	for _, list := range notNets() {
		if len(impl.CliqueRow(list)) != 0 {
			t.Fatal(list)
		}
	}
}

func TestChapter13WritesNothing(t *testing.T) {
	rows := append(bentRows(3), countingRows(4)...)
	for _, list := range append(fewNets(), notNets()...) {
		lentList := lent(list)
		impl.MostClique(lentList)
		impl.FewestCliques(lentList)
		impl.CliqueRow(lentList)
		impl.OtherNet(lentList)
		impl.GuardRow(lentList)
		for _, set := range setsToAsk() {
			impl.CliqueOk(lentList, set)
		}
		for _, row := range rows {
			lentRow := lent(row)
			impl.CliqueRowOk(lentList, lentRow)
			if !untouched(lentRow, row) {
				t.Fatal(list, row)
			}
		}
		if !untouched(lentList, list) {
			t.Fatal(list)
		}
	}
}

func TestChapter13AnswersAreNew(t *testing.T) {
	for _, net := range fewNets() {
		lentNet := lent(net)
		row := impl.CliqueRow(lentNet)
		other := impl.OtherNet(lentNet)
		guards := impl.GuardRow(lentNet)
		was := append(append(append([]int{}, row...), other...), guards...)
		spoil(row)
		spoil(other)
		spoil(guards)
		now := append(append(impl.CliqueRow(lentNet), impl.OtherNet(lentNet)...), impl.GuardRow(lentNet)...)
		if !untouched(lentNet, net) || !sameList(now, was) {
			t.Fatal(net)
		}
	}
}
