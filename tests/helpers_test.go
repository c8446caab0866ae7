package tests

const (
	leastInt = -1 << 63
	mostInt  = 1<<63 - 1
	spare    = 4
	mark     = 77
)

// netOf tells a net by its wires, two places each: "0-1" is 0, 1.
func netOf(places int, ends ...int) []int {
	net := make([]int, places)
	for k := 0; k+1 < len(ends); k += 2 {
		net[ends[k]] |= 1 << ends[k+1]
		net[ends[k+1]] |= 1 << ends[k]
	}
	return net
}

// allNeighbours is the net of MaxPlaces places in which all are neighbours.
func allNeighbours() []int {
	return []int{62, 61, 59, 55, 47, 31}
}

// ringOfSix is the net in which each place has the one before and the one behind it.
func ringOfSix() []int {
	return netOf(6, 0, 1, 1, 2, 2, 3, 3, 4, 4, 5, 5, 0)
}

// starAt is the net in which one place is the only neighbour of all others.
func starAt(places int, middle int) []int {
	net := make([]int, places)
	for place := range net {
		if place != middle {
			net[place] = 1 << middle
			net[middle] |= 1 << place
		}
	}
	return net
}

func pairsOf(places int) int {
	return places * (places - 1) / 2
}

// numberedNet takes the wires whose bits are in a number; each net has one.
func numberedNet(places int, number int) []int {
	net := make([]int, places)
	for a := 0; a < places; a++ {
		for b := a + 1; b < places; b++ {
			if number&1 == 1 {
				net[a] |= 1 << b
				net[b] |= 1 << a
			}
			number >>= 1
		}
	}
	return net
}

// netsUpTo returns every net of at most as many places.
func netsUpTo(most int) [][]int {
	nets := [][]int{}
	for places := 1; places <= most; places++ {
		for number := 0; number < 1<<pairsOf(places); number++ {
			nets = append(nets, numberedNet(places, number))
		}
	}
	return nets
}

// notNets returns a list for each way in which a list is no net.
func notNets() [][]int {
	return [][]int{
		nil,
		{},
		{0, 0, 0, 0, 0, 0, 0},
		{2, 1, 0, 0, 0, 0, 0},
		{126, 125, 123, 119, 111, 95, 63},
		make([]int, 64),
		make([]int, 1000),
		{1},
		{0, 2},
		{3, 3},
		{6, 5, 7},
		{0, 0, 0, 0, 0, 32},
		{2, 0},
		{0, 1},
		{2, 5, 0},
		{6, 1, 0},
		{62, 1, 1, 1, 1, 0},
		{-1},
		{2, -1},
		{-2, 1},
		{leastInt},
		{0, leastInt, 0},
		{2},
		{4, 0},
		{6, 1},
		{2, 5},
		{64, 0, 0, 0, 0, 0},
		{mostInt},
		{1 << 62, 0},
		{2 + 1<<32, 1},
	}
}

func notPlaces(places int) []int {
	return []int{-1, -2, -64, leastInt, places, places + 1, 63, 64, 65, 1 << 32, mostInt}
}

func notSets(places int) []int {
	all := 1 << places
	return []int{-1, -2, -all, leastInt, all, all + 1, 2*all - 1, 1 << 32, 1<<32 + 1, mostInt}
}

type netAndSet struct {
	net []int
	set int
}

// wrongSets returns lists that are no nets with sets, and nets with numbers that are no sets.
func wrongSets() []netAndSet {
	wrong := []netAndSet{}
	for _, list := range notNets() {
		for set := -1; set <= 128; set++ {
			wrong = append(wrong, netAndSet{list, set})
		}
	}
	for _, net := range append(netsUpTo(4), make([]int, 6), allNeighbours(), ringOfSix()) {
		for _, set := range notSets(len(net)) {
			wrong = append(wrong, netAndSet{net, set})
		}
	}
	return wrong
}

// listsToLend returns nets, and lists that are none, to see that nothing is written into them.
func listsToLend() [][]int {
	lists := netsUpTo(5)
	lists = append(lists, make([]int, 6), allNeighbours(), ringOfSix(), starAt(6, 5))
	return append(lists, notNets()...)
}

// setsToAsk returns all sets of a net of MaxPlaces places, and numbers that are none.
func setsToAsk() []int {
	sets := []int{leastInt, mostInt}
	for set := -1; set <= 64; set++ {
		sets = append(sets, set)
	}
	return sets
}

// lastOf reports whether a set is one of the good ones, and no set with more places around it is.
func lastOf(good []bool, set int) bool {
	for around := set + 1; around < len(good); around++ {
		if around&set == set && good[around] {
			return false
		}
	}
	return good[set]
}

// lastsOf tells for each set, by its number, whether it is a last one of the good ones.
func lastsOf(good []bool) []bool {
	lasts := make([]bool, len(good))
	for set := range good {
		lasts[set] = lastOf(good, set)
	}
	return lasts
}

// sizesOf returns how many good sets there are of each number of places, from 0 on.
func sizesOf(good []bool) []int {
	counts := make([]int, 7)
	for set, one := range good {
		if one {
			counts[size(set)]++
		}
	}
	return counts
}

// fewestOf returns the least number of places of a good set.
func fewestOf(good []bool) int {
	for many, count := range sizesOf(good) {
		if count > 0 {
			return many
		}
	}
	return -1
}

// mostOf returns the greatest number of places of a good set.
func mostOf(good []bool) int {
	most := -1
	for many, count := range sizesOf(good) {
		if count > 0 {
			most = many
		}
	}
	return most
}

func has(set int, place int) bool {
	return set>>place&1 == 1
}

func size(set int) int {
	many := 0
	for set > 0 {
		many += set & 1
		set >>= 1
	}
	return many
}

// near reports by the net's own rows whether two places are neighbours.
func near(net []int, a int, b int) bool {
	return has(net[a], b)
}

func sameList(a []int, b []int) bool {
	if len(a) != len(b) {
		return false
	}
	for k := range a {
		if a[k] != b[k] {
			return false
		}
	}
	return true
}

// lent returns a copy of a list with marks in the memory behind it.
func lent(list []int) []int {
	memory := make([]int, 0, len(list)+spare)
	memory = append(memory, list...)
	for k := 0; k < spare; k++ {
		memory = append(memory, mark)
	}
	return memory[:len(list)]
}

// untouched reports whether a lent list, and the memory behind it, is as it was.
func untouched(list []int, was []int) bool {
	memory := list[:len(list)+spare]
	for k := len(list); k < len(memory); k++ {
		if memory[k] != mark {
			return false
		}
	}
	return sameList(list, was)
}

// spoil writes all over an answer, and into what memory is behind it.
func spoil(answer []int) {
	for k := range answer {
		answer[k] = -99
	}
	answer = append(answer, -99)
	answer[0] = -99
}

// ordersOf returns all orders of as many places.
func ordersOf(places int) [][]int {
	orders := [][]int{{}}
	for last := 0; last < places; last++ {
		longer := [][]int{}
		for _, order := range orders {
			for at := 0; at <= last; at++ {
				next := append([]int{}, order[:at]...)
				next = append(next, last)
				longer = append(longer, append(next, order[at:]...))
			}
		}
		orders = longer
	}
	return orders
}

// renumbered returns the number of a net in which the places of a numbered net have the names of an order.
func renumbered(net []int, order []int) int {
	number := 0
	bit := 1
	for a := range net {
		for b := a + 1; b < len(net); b++ {
			if near(net, order[a], order[b]) {
				number += bit
			}
			bit *= 2
		}
	}
	return number
}

// shapesOf returns one net of as many places for each way in which nets are the same but for names.
func shapesOf(places int) [][]int {
	shapes := [][]int{}
	orders := ordersOf(places)
	known := make([]bool, 1<<pairsOf(places))
	for number := range known {
		if known[number] {
			continue
		}
		net := numberedNet(places, number)
		shapes = append(shapes, net)
		for _, order := range orders {
			known[renumbered(net, order)] = true
		}
	}
	return shapes
}

// manyNets returns every net of at most five places, and every one of six by some of its names:
// for tests that would take too long with all of them.
func manyNets() [][]int {
	nets := netsUpTo(5)
	for _, shape := range shapesOf(6) {
		for _, order := range [][]int{{0, 1, 2, 3, 4, 5}, {5, 4, 3, 2, 1, 0}, {2, 5, 0, 4, 1, 3}} {
			nets = append(nets, numberedNet(6, renumbered(shape, order)))
		}
	}
	return nets
}

// fullNet is the net of as many places in which all are neighbours.
func fullNet(places int) []int {
	return numberedNet(places, 1<<pairsOf(places)-1)
}

// wayOf is the net in which each place but the last has the next one as its neighbour.
func wayOf(places int) []int {
	net := make([]int, places)
	for place := 1; place < places; place++ {
		net[place] |= 1 << (place - 1)
		net[place-1] |= 1 << place
	}
	return net
}

// threePairs has three parts of two places each.
func threePairs() []int {
	return netOf(6, 0, 5, 1, 4, 2, 3)
}

// allRows returns all rows of as many numbers in 0..2, in their order from the place 0 on.
func allRows(places int) [][]int {
	rows := [][]int{{}}
	for place := 0; place < places; place++ {
		longer := [][]int{}
		for _, row := range rows {
			for number := 0; number <= 2; number++ {
				longer = append(longer, append(append([]int{}, row...), number))
			}
		}
		rows = longer
	}
	return rows
}

// rowsUpTo returns allRows of each number of places, from 0 on.
func rowsUpTo(most int) [][][]int {
	rows := [][][]int{}
	for places := 0; places <= most; places++ {
		rows = append(rows, allRows(places))
	}
	return rows
}

// rowLike returns a row of as many numbers that are all the same one.
func rowLike(places int, number int) []int {
	row := make([]int, places)
	for place := range row {
		row[place] = number
	}
	return row
}

// placesOf returns the set of the places whose numbers are in a range.
func placesOf(row []int, least int, most int) int {
	set := 0
	for place, number := range row {
		if least <= number && number <= most {
			set += 1 << place
		}
	}
	return set
}

func sumOf(row []int) int {
	sum := 0
	for _, number := range row {
		sum += number
	}
	return sum
}

// notRows returns a list for each way in which a list is no row of as many places.
func notRows(places int) [][]int {
	rows := [][]int{nil, make([]int, 64)}
	for number := 0; number <= 2; number++ {
		rows = append(rows, rowLike(places-1, number), rowLike(places+1, number), rowLike(places+2, number))
	}
	for place := 0; place < places; place++ {
		for _, number := range []int{-1, -2, 3, 4, 256, 1 << 32, 1<<32 + 1, leastInt, mostInt} {
			row := rowLike(places, 2)
			row[place] = number
			rows = append(rows, row)
		}
	}
	return rows
}

type netAndRow struct {
	net []int
	row []int
}

// wrongRows returns lists that are no nets with rows, and nets with lists that are no rows.
func wrongRows() []netAndRow {
	wrong := []netAndRow{}
	for _, list := range notNets() {
		for number := 0; number <= 2; number++ {
			wrong = append(wrong, netAndRow{list, rowLike(len(list), number)})
		}
		wrong = append(wrong, netAndRow{list, nil}, netAndRow{list, []int{2}}, netAndRow{list, rowLike(6, 1)})
	}
	for _, net := range append(netsUpTo(4), make([]int, 6), allNeighbours(), ringOfSix()) {
		for _, row := range notRows(len(net)) {
			wrong = append(wrong, netAndRow{net, row})
		}
	}
	return wrong
}

// rowsToAsk returns rows of some lengths, and lists that are no rows.
func rowsToAsk() [][]int {
	rows := [][]int{}
	for places := 1; places <= 3; places++ {
		rows = append(rows, allRows(places)...)
	}
	for places := 4; places <= 7; places++ {
		rows = append(rows, rowLike(places, 0), rowLike(places, 1), rowLike(places, 2))
	}
	return append(rows, notRows(6)...)
}

// fewNets returns every net of at most four places, and every one of five and six by one or two of
// its names: for tests that ask for each set and place.
func fewNets() [][]int {
	nets := netsUpTo(4)
	for _, shape := range shapesOf(5) {
		nets = append(nets, shape, numberedNet(5, renumbered(shape, []int{4, 1, 3, 0, 2})))
	}
	for _, shape := range shapesOf(6) {
		nets = append(nets, numberedNet(6, renumbered(shape, []int{2, 5, 0, 4, 1, 3})))
	}
	return nets
}

// twoAndFour has the wires from each of two places to each of four other ones.
func twoAndFour() []int {
	return []int{60, 60, 3, 3, 3, 3}
}

// goodSets lists the sets that are good ones.
func goodSets(good []bool) []int {
	list := []int{}
	for set, one := range good {
		if one {
			list = append(list, set)
		}
	}
	return list
}

func sameFlags(a []bool, b []bool) bool {
	for k := range a {
		if a[k] != b[k] {
			return false
		}
	}
	return len(a) == len(b)
}

// allGood returns a list in which each set is a good one.
func allGood(net []int) []bool {
	good := make([]bool, 1<<len(net))
	for set := range good {
		good[set] = true
	}
	return good
}

// countingRows returns all rows of as many numbers from 0 on, each at most one more than all ahead
// of it, in their order.
func countingRows(places int) [][]int {
	rows := [][]int{{}}
	for place := 0; place < places; place++ {
		longer := [][]int{}
		for _, row := range rows {
			for number := 0; number <= numbersIn(row); number++ {
				longer = append(longer, append(append([]int{}, row...), number))
			}
		}
		rows = longer
	}
	return rows
}

// countingUpTo returns countingRows of each number of places, from 0 on.
func countingUpTo(most int) [][][]int {
	rows := [][][]int{}
	for places := 0; places <= most; places++ {
		rows = append(rows, countingRows(places))
	}
	return rows
}

// numbersIn returns one more than the greatest number of a row, or 0.
func numbersIn(row []int) int {
	many := 0
	for _, number := range row {
		many = max(many, number+1)
	}
	return many
}

// smallRows returns all rows of as many numbers in -1..places.
func smallRows(places int) [][]int {
	rows := [][]int{{}}
	for place := 0; place < places; place++ {
		longer := [][]int{}
		for _, row := range rows {
			for number := -1; number <= places; number++ {
				longer = append(longer, append(append([]int{}, row...), number))
			}
		}
		rows = longer
	}
	return rows
}

// isCounting reports whether each number of a row is 0 or one more than some number ahead of it,
// or stands ahead of it as well.
func isCounting(row []int) bool {
	for at, number := range row {
		known := number == 0
		for _, ahead := range row[:at] {
			known = known || ahead == number || ahead == number-1
		}
		if number < 0 || !known {
			return false
		}
	}
	return true
}

// bentRows returns rows of as many numbers that do not count up: each one is made of a row that does
// by another number at one place.
func bentRows(places int) [][]int {
	bent := [][]int{}
	for _, row := range countingRows(places) {
		for place := range row {
			for _, number := range []int{-1, -2, row[place] + 1, row[place] + 2, numbersIn(row[:place]) + 1, places, 63, 64, 1 << 32, leastInt, mostInt} {
				other := append([]int{}, row...)
				other[place] = number
				if !isCounting(other) {
					bent = append(bent, other)
				}
			}
		}
	}
	return bent
}

// otherLengths returns rows that count up, but are not of as many numbers.
func otherLengths(places int) [][]int {
	rows := [][]int{nil, {}, make([]int, 64)}
	for _, many := range []int{places - 1, places + 1, places + 2, 2 * places} {
		if many > 0 {
			up := make([]int, many)
			for place := range up {
				up[place] = place
			}
			rows = append(rows, rowLike(many, 0), up)
		}
	}
	return rows
}

func sameTexts(a []string, b []string) bool {
	if len(a) != len(b) {
		return false
	}
	for k := range a {
		if a[k] != b[k] {
			return false
		}
	}
	return true
}

func sameBytes(a []byte, b []byte) bool {
	return string(a) == string(b)
}

// lentBytes returns a copy of bytes with marks in the memory behind it.
func lentBytes(list []byte) []byte {
	memory := make([]byte, 0, len(list)+spare)
	memory = append(memory, list...)
	for k := 0; k < spare; k++ {
		memory = append(memory, mark)
	}
	return memory[:len(list)]
}

// untouchedBytes reports whether lent bytes, and the memory behind them, are as they were.
func untouchedBytes(list []byte, was []byte) bool {
	memory := list[:len(list)+spare]
	for k := len(list); k < len(memory); k++ {
		if memory[k] != mark {
			return false
		}
	}
	return sameBytes(list, was)
}

// spoilBytes writes all over an answer, and into what memory is behind it.
func spoilBytes(answer []byte) {
	for k := range answer {
		answer[k] = 99
	}
	answer = append(answer, 99)
	answer[0] = 99
}
