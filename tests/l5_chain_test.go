package tests

import (
	"testing"

	"loop.example/guardsonnets/impl"
)

// leastsTold tells for each set of a net, by its number, whether it is a least watch.
func leastsTold(net []int) []bool {
	watches := watchesTold(net)
	leasts := make([]bool, len(watches))
	for set := range watches {
		leasts[set] = leastTold(watches, set)
	}
	return leasts
}

// chainTold lists the sets of each kind first, and looks for the ends of each list then.
func chainTold(net []int) []int {
	needs := needsTold(net)
	aparts := apartsTold(net)
	return []int{
		fewestOf(lastsOf(needs)),
		fewestOf(watchesTold(net)),
		fewestOf(lastsOf(aparts)),
		mostOf(aparts),
		mostOf(leastsTold(net)),
		mostOf(needs),
	}
}

// isSame tells a row of six numbers that are all the same one.
func isSame(row []int, number int) bool {
	return sameList(row, []int{number, number, number, number, number, number})
}

// prismOfSix has two rings of three, each place of which has one of the other ring as its neighbour.
func prismOfSix() []int {
	return netOf(6, 0, 1, 1, 2, 2, 0, 3, 4, 4, 5, 5, 3, 0, 3, 1, 4, 2, 5)
}

// starAndTwo has a star of four places, and two lone ones.
func starAndTwo() []int {
	return netOf(6, 0, 1, 0, 2, 0, 3)
}

func TestP26Fewest(t *testing.T) {
	for _, net := range netsUpTo(impl.MaxPlaces) {
		needs := impl.FewestNeeds(net)
		fewest := impl.FewestWatch(net)
		if needs != fewestOf(lastsOf(needsTold(net))) || needs > fewest || fewest >= 2*needs {
			t.Fatal(net, needs)
		}
	}
}

func TestP26Examples(t *testing.T) {
	for places := 1; places <= impl.MaxPlaces; places++ {
		if impl.FewestNeeds(make([]int, places)) != places || impl.FewestNeeds(starAt(places, 0)) != 1 {
			t.Fatal(places)
		}
	}
	if impl.FewestNeeds(allNeighbours()) != 1 || impl.FewestNeeds(ringOfSix()) != 2 || impl.FewestNeeds(twoMiddles()) != 2 || impl.FewestNeeds(prismOfSix()) != 2 {
		t.Fatal("one part")
	}
	if impl.FewestNeeds(netOf(3, 0, 1)) != 2 || impl.FewestNeeds(netOf(6, 0, 5, 1, 4, 2, 3)) != 3 || impl.FewestNeeds(starAndTwo()) != 3 {
		t.Fatal("parts")
	}
}

func TestP26Invalid(t *testing.T) {
	for _, list := range notNets() {
		if impl.FewestNeeds(list) != -1 {
			t.Fatal(list)
		}
	}
}

func TestP27Most(t *testing.T) {
	for _, net := range netsUpTo(impl.MaxPlaces) {
		most := impl.MostNeeds(net)
		least := len(net)
		for place := range net {
			least = min(least, size(impl.BallOf(net, place)))
		}
		if most != mostOf(needsTold(net)) || most < impl.MostLeast(net) || most+least > len(net)+1 || (most == len(net)) != (impl.WiresOf(net) == 0) {
			t.Fatal(net, most)
		}
	}
}

func TestP27Examples(t *testing.T) {
	for places := 1; places <= impl.MaxPlaces; places++ {
		if impl.MostNeeds(make([]int, places)) != places {
			t.Fatal(places)
		}
	}
	if impl.MostNeeds([]int{2, 1}) != 1 || impl.MostNeeds(allNeighbours()) != 1 || impl.MostNeeds(starAt(6, 5)) != 5 || impl.MostNeeds(ringOfSix()) != 3 {
		t.Fatal("one part")
	}
	// A ring of three needs all of its guards, though no two of them are apart.
	if impl.MostNeeds(prismOfSix()) != 3 || impl.MostNeeds(twoMiddles()) != 4 {
		t.Fatal("two rings and two neighbours")
	}
	if impl.MostNeeds(netOf(3, 0, 1)) != 2 || impl.MostNeeds(netOf(6, 0, 5, 1, 4, 2, 3)) != 3 || impl.MostNeeds(starAndTwo()) != 5 {
		t.Fatal("parts")
	}
}

func TestP27Invalid(t *testing.T) {
	for _, list := range notNets() {
		if impl.MostNeeds(list) != -1 {
			t.Fatal(list)
		}
	}
}

func TestP28Most(t *testing.T) {
	for _, net := range netsUpTo(impl.MaxPlaces) {
		most := impl.MostLeast(net)
		listed := 0
		for _, set := range impl.LeastWatches(net) {
			listed = max(listed, size(set))
		}
		if most != listed || most != mostOf(leastsTold(net)) || most < impl.MostApart(net) {
			t.Fatal(net, most)
		}
	}
}

func TestP28Examples(t *testing.T) {
	for places := 1; places <= impl.MaxPlaces; places++ {
		if impl.MostLeast(make([]int, places)) != places {
			t.Fatal(places)
		}
	}
	if impl.MostLeast([]int{2, 1}) != 1 || impl.MostLeast(allNeighbours()) != 1 || impl.MostLeast(starAt(6, 5)) != 5 || impl.MostLeast(ringOfSix()) != 3 || impl.MostLeast(twoMiddles()) != 4 {
		t.Fatal("one part")
	}
	// A ring of three is a least watch with more guards than can be apart.
	if impl.MostLeast(prismOfSix()) != 3 || impl.MostApart(prismOfSix()) != 2 {
		t.Fatal("two rings")
	}
	if impl.MostLeast(netOf(3, 0, 1)) != 2 || impl.MostLeast(netOf(6, 0, 5, 1, 4, 2, 3)) != 3 || impl.MostLeast(starAndTwo()) != 5 {
		t.Fatal("parts")
	}
}

func TestP28Invalid(t *testing.T) {
	for _, list := range notNets() {
		if impl.MostLeast(list) != -1 {
			t.Fatal(list)
		}
	}
}

func TestP29Row(t *testing.T) {
	for _, net := range netsUpTo(impl.MaxPlaces) {
		row := impl.ChainRow(net)
		if !sameList(row, chainTold(net)) {
			t.Fatal(net, row)
		}
		if !sameList(row, []int{impl.FewestNeeds(net), impl.FewestWatch(net), impl.FewestApart(net), impl.MostApart(net), impl.MostLeast(net), impl.MostNeeds(net)}) {
			t.Fatal(net, row)
		}
	}
}

func TestP29NeverFalls(t *testing.T) {
	for _, net := range netsUpTo(impl.MaxPlaces) {
		row := impl.ChainRow(net)
		for k := 1; k < len(row); k++ {
			if row[k] < row[k-1] {
				t.Fatal(net, row)
			}
		}
		if len(row) != 6 || isSame(row, len(net)) != (impl.WiresOf(net) == 0) {
			t.Fatal(net, row)
		}
	}
}

func TestP29Examples(t *testing.T) {
	for places := 1; places <= impl.MaxPlaces; places++ {
		if !isSame(impl.ChainRow(make([]int, places)), places) {
			t.Fatal(places)
		}
	}
	if !isSame(impl.ChainRow([]int{2, 1}), 1) || !isSame(impl.ChainRow(allNeighbours()), 1) {
		t.Fatal("all are neighbours")
	}
	if !sameList(impl.ChainRow(starAt(6, 0)), []int{1, 1, 1, 5, 5, 5}) || !sameList(impl.ChainRow(starAt(6, 5)), []int{1, 1, 1, 5, 5, 5}) {
		t.Fatal("stars")
	}
	if !sameList(impl.ChainRow(ringOfSix()), []int{2, 2, 2, 3, 3, 3}) || !sameList(impl.ChainRow(prismOfSix()), []int{2, 2, 2, 2, 3, 3}) || !sameList(impl.ChainRow(twoMiddles()), []int{2, 2, 3, 4, 4, 4}) {
		t.Fatal("rings and two neighbours")
	}
	if !isSame(impl.ChainRow(netOf(3, 0, 1)), 2) || !isSame(impl.ChainRow(netOf(6, 0, 5, 1, 4, 2, 3)), 3) || !sameList(impl.ChainRow(starAndTwo()), []int{3, 3, 3, 5, 5, 5}) {
		t.Fatal("parts")
	}
}

func TestP29Invalid(t *testing.T) {
	for _, list := range notNets() {
		if len(impl.ChainRow(list)) != 0 {
			t.Fatal(list)
		}
	}
}

func TestP30Even(t *testing.T) {
	for _, net := range netsUpTo(impl.MaxPlaces) {
		even := true
		list := impl.LeastWatches(net)
		for _, set := range list {
			even = even && size(set) == size(list[0])
		}
		leasts := leastsTold(net)
		if impl.EvenWatchedOk(net) != even || even != (fewestOf(leasts) == mostOf(leasts)) {
			t.Fatal(net)
		}
	}
}

func TestP30ApartToo(t *testing.T) {
	for _, net := range netsUpTo(impl.MaxPlaces) {
		fewest := impl.FewestWatch(net)
		if impl.EvenWatchedOk(net) && (impl.FewestApart(net) != fewest || impl.MostApart(net) != fewest) {
			t.Fatal(net)
		}
	}
}

func TestP30NoneAndAllAreNeighbours(t *testing.T) {
	for places := 1; places <= impl.MaxPlaces; places++ {
		full := numberedNet(places, 1<<pairsOf(places)-1)
		if !impl.EvenWatchedOk(make([]int, places)) || !impl.EvenWatchedOk(full) {
			t.Fatal(places)
		}
		if impl.MostLeast(make([]int, places)) != places || impl.MostLeast(full) != 1 {
			t.Fatal(places)
		}
	}
}

func TestP30Examples(t *testing.T) {
	if impl.EvenWatchedOk(starAt(6, 5)) || impl.EvenWatchedOk(starAt(3, 0)) || impl.EvenWatchedOk(ringOfSix()) || impl.EvenWatchedOk(twoMiddles()) || impl.EvenWatchedOk(starAndTwo()) {
		t.Fatal("two sizes")
	}
	if !impl.EvenWatchedOk(netOf(4, 0, 1, 1, 2, 2, 3)) || !impl.EvenWatchedOk(netOf(6, 0, 5, 1, 4, 2, 3)) || !impl.EvenWatchedOk(netOf(3, 0, 1)) {
		t.Fatal("one size")
	}
	// Places apart are always two here, but three neighbours are a least watch as well.
	if impl.EvenWatchedOk(prismOfSix()) || impl.FewestApart(prismOfSix()) != 2 || impl.MostApart(prismOfSix()) != 2 {
		t.Fatal("two rings")
	}
}

func TestP30Invalid(t *testing.T) {
	for _, list := range notNets() {
		if impl.EvenWatchedOk(list) {
			t.Fatal(list)
		}
	}
}

// askChapter5 calls each function of the chapter with a net.
func askChapter5(net []int) {
	impl.FewestNeeds(net)
	impl.MostNeeds(net)
	impl.MostLeast(net)
	impl.ChainRow(net)
	impl.EvenWatchedOk(net)
}

func TestChapter5WritesNothing(t *testing.T) {
	for _, list := range listsToLend() {
		lentList := lent(list)
		askChapter5(lentList)
		if !untouched(lentList, list) {
			t.Fatal(list)
		}
	}
}

func TestChapter5AnswersAreNew(t *testing.T) {
	for _, net := range netsUpTo(impl.MaxPlaces) {
		lentNet := lent(net)
		row := impl.ChainRow(lentNet)
		was := append([]int{}, row...)
		next := impl.ChainRow(lentNet)
		spoil(row)
		if !untouched(lentNet, net) || !sameList(next, was) {
			t.Fatal(net)
		}
	}
}
