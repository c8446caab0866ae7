package tests

import (
	"testing"

	"loop.example/guardsonnets/impl"
)

// recordTold multiplies by counting on, as far as 250.
func recordTold(place int, ahead int) []byte {
	product := 0
	for k := 0; k < (place+1)*(7+ahead); k++ {
		product++
		if product == 251 {
			product = 0
		}
	}
	return []byte{byte(place + 1), byte(ahead + 1), byte(product)}
}

func logTold(places []int) []byte {
	log := []byte{}
	for ahead, place := range places {
		log = append(log, recordTold(place, ahead)...)
	}
	return log
}

// placesTold tries all places as the next one, as long as the log begins with their records.
func placesTold(log []byte) []int {
	places := []int{}
	for len(places) < 40 {
		next := -1
		for place := 0; place < 6; place++ {
			longer := logTold(append(append([]int{}, places...), place))
			if len(longer) <= len(log) && sameBytes(longer, log[:len(longer)]) {
				next = place
			}
		}
		if next == -1 {
			return places
		}
		places = append(places, next)
	}
	return places
}

// firstTold returns the least of the good sets that have the fewest places.
func firstTold(good []bool) int {
	for set, one := range good {
		if one && size(set) == fewestOf(good) {
			return set
		}
	}
	return -1
}

// postTold answers places one by one.
func postTold(net []int, eternals []bool, places []int) impl.Post {
	sets := answeredTold(net, eternals, firstTold(eternals), places)
	return impl.Post{Net: net, Set: sets[len(sets)-1], Log: logTold(places)}
}

// herePlaces returns what is ahead of the first place that is none of a net.
func herePlaces(net []int, places []int) []int {
	for k, place := range places {
		if place >= len(net) {
			return places[:k]
		}
	}
	return places
}

func samePost(a impl.Post, b impl.Post) bool {
	return sameList(a.Net, b.Net) && a.Set == b.Set && sameBytes(a.Log, b.Log)
}

func isNoPost(p impl.Post, ok bool) bool {
	return !ok && samePost(p, impl.Post{})
}

// postNets returns every net of at most three places, the shapes of four, and some of five and six.
func postNets() [][]int {
	nets := append(netsUpTo(3), shapesOf(4)...)
	nets = append(nets, ringOfFive(), wayOf(5), make([]int, 5), fullNet(5))
	return append(nets, ringOfSix(), allNeighbours(), make([]int, 6), starAt(6, 5), threePairs(), twoAndFour(), twoMiddles(), prismOfSix(), starAndTwo(), wayOf(6))
}

// fullList asks for places of a net as often as a log has room for.
func fullList(places int) []int {
	list := []int{}
	for k := 0; k < impl.MaxAsked; k++ {
		list = append(list, (k*k+k/3)%places)
	}
	return list
}

// listsToLog returns lists of places of any net: all of at most three, some longer ones, and those of MaxAsked.
func listsToLog() [][]int {
	lists := append(allRequests(6, 0), allRequests(6, 1)...)
	lists = append(append(lists, allRequests(6, 2)...), allRequests(6, 3)...)
	for places := 1; places <= 6; places++ {
		lists = append(lists, requestsOf(places)...)
		lists = append(lists, fullList(places), rowLike(40, places-1), rowLike(39, places-1))
	}
	return lists
}

// bentLogs returns logs in which a byte is another one, is missing or is there twice, and some records
// are in another order, twice, of another place, or have another product.
func bentLogs(log []byte) [][]byte {
	logs := [][]byte{}
	for at := 0; at <= len(log); at++ {
		head := append([]byte{}, log[:at]...)
		logs = append(logs, head, append([]byte{}, log[at:]...), append(append([]byte{}, log...), log[at:]...), append(append([]byte{}, head...), log...))
		if at < len(log) {
			logs = append(logs, append(append([]byte{}, head...), log[at+1:]...))
			for _, more := range []byte{1, 2, 5, 128, 250, 254, 255} {
				other := append([]byte{}, log...)
				other[at] += more
				logs = append(logs, other)
			}
		}
	}
	for at := 0; at+6 <= len(log); at += 3 {
		other := append(append([]byte{}, log[:at]...), log[at+3:at+6]...)
		other = append(append(other, log[at:at+3]...), log[at+6:]...)
		logs = append(logs, other)
	}
	for place := 0; place <= 6; place++ {
		logs = append(logs, append(append([]byte{}, log...), recordTold(place, len(log)/3)...))
		logs = append(logs, append(recordTold(place, 0), log...))
		if len(log) >= 3 {
			logs = append(logs, append(recordTold(place, 0), log[3:]...))
		}
	}
	return logs
}

func TestP68Log(t *testing.T) {
	for _, list := range listsToLog() {
		log := impl.LogOf(list)
		if len(log) != 3*len(list) || !sameBytes(log, logTold(list)) {
			t.Fatal(list, log)
		}
	}
}

func TestP68ReadBack(t *testing.T) {
	for _, list := range listsToLog() {
		log := impl.LogOf(list)
		for left := 0; left <= len(log); left++ {
			if places, bytes := impl.LogPlaces(log[:left]); !sameList(places, list[:left/3]) || bytes != left/3*3 {
				t.Fatal(list, left, places, bytes)
			}
		}
	}
}

func TestP68Examples(t *testing.T) {
	if len(impl.LogOf(nil)) != 0 || len(impl.LogOf([]int{})) != 0 || !sameBytes(impl.LogOf([]int{0}), []byte{1, 1, 7}) || !sameBytes(impl.LogOf([]int{5}), []byte{6, 1, 42}) {
		t.Fatal("no place and one")
	}
	if !sameBytes(impl.LogOf([]int{3, 1}), []byte{4, 1, 28, 2, 2, 16}) || !sameBytes(impl.LogOf([]int{3, 3, 0}), []byte{4, 1, 28, 4, 2, 32, 1, 3, 9}) {
		t.Fatal("two places and three")
	}
	// The product of the 36th record is 252, that of the last one 276.
	log := impl.LogOf(rowLike(impl.MaxAsked, 5))
	if len(log) != 120 || !sameBytes(log[102:108], []byte{6, 35, 246, 6, 36, 1}) || !sameBytes(log[117:], []byte{6, 40, 25}) {
		t.Fatal(log)
	}
	if log := impl.LogOf(rowLike(impl.MaxAsked, 0)); len(log) != 120 || !sameBytes(log[117:], []byte{1, 40, 46}) {
		t.Fatal(log)
	}
}

func TestP68Invalid(t *testing.T) {
	for _, no := range notPlaces(6) {
		for _, list := range [][]int{{no}, {0, no}, {no, 0}, {5, no, 5}, append(rowLike(39, 1), no), append([]int{no}, rowLike(39, 1)...)} {
			if len(impl.LogOf(list)) != 0 {
				t.Fatal(list)
			}
		}
	}
	for _, many := range []int{41, 42, 80, 1000} {
		for place := 0; place < 6; place++ {
			if len(impl.LogOf(rowLike(many, place))) != 0 {
				t.Fatal(many, place)
			}
		}
	}
}

func TestP69Read(t *testing.T) {
	for _, list := range [][]int{{}, {0}, {5}, {3, 1}, {2, 2, 2}, {0, 5, 4, 1}, fullList(6)[:15]} {
		log := logTold(list)
		for _, bent := range append(bentLogs(log), bentBytes(log)...) {
			if places, bytes := impl.LogPlaces(bent); !sameList(places, placesTold(bent)) || bytes != 3*len(places) {
				t.Fatal(bent, places, bytes)
			}
		}
	}
}

func TestP69FirstRecords(t *testing.T) {
	for head := 0; head <= 255; head++ {
		for _, second := range []byte{0, 1, 2, 3, 255} {
			for third := 0; third <= 255; third++ {
				log := []byte{byte(head), second, byte(third)}
				right := head >= 1 && head <= 6 && second == 1 && third == 7*head
				places, bytes := impl.LogPlaces(log)
				if right && (!sameList(places, []int{head - 1}) || bytes != 3) || !right && (len(places) != 0 || bytes != 0) {
					t.Fatal(log, places, bytes)
				}
			}
		}
	}
}

func TestP69WasWritten(t *testing.T) {
	for _, list := range [][]int{{}, {1}, {4, 0}, {5, 5, 3}, {2, 0, 1, 2}} {
		for _, bent := range bentBytes(logTold(list)) {
			places, bytes := impl.LogPlaces(bent)
			if !sameBytes(impl.LogOf(places), bent[:bytes]) || bytes != 3*len(places) {
				t.Fatal(bent, places, bytes)
			}
		}
	}
}

func TestP69Examples(t *testing.T) {
	if places, bytes := impl.LogPlaces(nil); len(places) != 0 || bytes != 0 {
		t.Fatal(places, bytes)
	}
	if places, bytes := impl.LogPlaces([]byte{4, 1, 28, 2, 2, 17, 9}); !sameList(places, []int{3}) || bytes != 3 {
		t.Fatal(places, bytes)
	}
	// Records in another order, twice, of a place that is none, or with nothing in them.
	if places, bytes := impl.LogPlaces([]byte{2, 2, 16, 4, 1, 28}); len(places) != 0 || bytes != 0 {
		t.Fatal(places, bytes)
	}
	if places, bytes := impl.LogPlaces([]byte{4, 1, 28, 4, 1, 28}); !sameList(places, []int{3}) || bytes != 3 {
		t.Fatal(places, bytes)
	}
	if places, bytes := impl.LogPlaces([]byte{4, 1, 28, 7, 2, 56}); !sameList(places, []int{3}) || bytes != 3 {
		t.Fatal(places, bytes)
	}
	if places, bytes := impl.LogPlaces([]byte{0, 1, 0, 4, 2, 32}); len(places) != 0 || bytes != 0 {
		t.Fatal(places, bytes)
	}
	if places, bytes := impl.LogPlaces([]byte{4, 1, 28, 3, 3, 27}); !sameList(places, []int{3}) || bytes != 3 {
		t.Fatal(places, bytes)
	}
}

func TestP69NoMoreThanMaxAsked(t *testing.T) {
	if impl.MaxAsked != 40 {
		t.Fatal(impl.MaxAsked)
	}
	for place := 0; place < 6; place++ {
		list := rowLike(impl.MaxAsked, place)
		log := logTold(rowLike(impl.MaxAsked+20, place))
		for _, left := range []int{120, 121, 122, 123, 124, 180} {
			if places, bytes := impl.LogPlaces(log[:left]); !sameList(places, list) || bytes != 120 {
				t.Fatal(place, left, places, bytes)
			}
		}
	}
}

func TestP70Posts(t *testing.T) {
	for _, net := range postNets() {
		eternals := eternalsTold(net)
		for _, list := range append(requestsOf(len(net)), fullList(len(net))) {
			p := postTold(net, eternals, list)
			risen, ok := impl.PostRise(p.Net, p.Log)
			if !impl.PostOk(p) || !ok || !samePost(risen, p) || !impl.EternalOk(net, p.Set) {
				t.Fatal(p)
			}
		}
	}
}

func TestP70OtherSets(t *testing.T) {
	for _, net := range postNets() {
		eternals := eternalsTold(net)
		for _, list := range requestsOf(len(net)) {
			right := postTold(net, eternals, list)
			for _, set := range setsToAsk() {
				if impl.PostOk(impl.Post{Net: net, Set: set, Log: right.Log}) != (set == right.Set) {
					t.Fatal(right, set)
				}
			}
		}
	}
}

func TestP70OtherLogs(t *testing.T) {
	for _, net := range [][]int{{0}, {2, 1}, wayOf(3), wayOf(4), ringOfFive(), threePairs(), allNeighbours()} {
		eternals := eternalsTold(net)
		for _, list := range requestsOf(len(net)) {
			right := postTold(net, eternals, list)
			for _, log := range bentLogs(right.Log) {
				places := herePlaces(net, placesTold(log))
				told := len(log) == 3*len(places) && postTold(net, eternals, places).Set == right.Set
				if impl.PostOk(impl.Post{Net: net, Set: right.Set, Log: log}) != told {
					t.Fatal(right, log, told)
				}
			}
		}
	}
}

func TestP70Examples(t *testing.T) {
	way := wayOf(4)
	if !impl.PostOk(impl.Post{Net: way, Set: 5}) || !impl.PostOk(impl.Post{Net: way, Set: 9, Log: []byte{4, 1, 28}}) || !impl.PostOk(impl.Post{Net: way, Set: 10, Log: []byte{4, 1, 28, 2, 2, 16}}) {
		t.Fatal("posts")
	}
	// An eternal set, but not that of the log; a log with a byte or a record more, or without its first record.
	if impl.PostOk(impl.Post{Net: way, Set: 9}) || impl.PostOk(impl.Post{Net: way, Set: 5, Log: []byte{4, 1, 28}}) || impl.PostOk(impl.Post{Net: way, Set: 9, Log: []byte{4, 1, 28, 2}}) || impl.PostOk(impl.Post{Net: way, Set: 9, Log: []byte{4, 1, 28, 2, 2, 16}}) || impl.PostOk(impl.Post{Net: way, Set: 10, Log: []byte{2, 2, 16}}) {
		t.Fatal("other sets and logs")
	}
	// The place 4 is none of this net, but one of another one.
	if impl.PostOk(impl.Post{Net: way, Set: 5, Log: []byte{5, 1, 35}}) || !impl.PostOk(impl.Post{Net: make([]int, 5), Set: 31, Log: []byte{5, 1, 35}}) {
		t.Fatal("places")
	}
	if !impl.PostOk(impl.Post{Net: []int{0}, Set: 1, Log: []byte{1, 1, 7}}) || impl.PostOk(impl.Post{Net: []int{0}, Set: 0, Log: []byte{1, 1, 7}}) || impl.PostOk(impl.Post{}) || impl.PostOk(impl.Post{Set: 5}) || impl.PostOk(impl.Post{Net: way}) {
		t.Fatal("one place, and nothing")
	}
}

func TestP70Invalid(t *testing.T) {
	for _, list := range notNets() {
		for _, set := range setsToAsk() {
			if impl.PostOk(impl.Post{Net: list, Set: set}) || impl.PostOk(impl.Post{Net: list, Set: set, Log: []byte{1, 1, 7}}) {
				t.Fatal(list, set)
			}
		}
	}
	log := logTold(rowLike(impl.MaxAsked+1, 0))
	if !impl.PostOk(impl.Post{Net: []int{0}, Set: 1, Log: log[:120]}) || impl.PostOk(impl.Post{Net: []int{0}, Set: 1, Log: log}) {
		t.Fatal("too many requests")
	}
}

func TestP71Asked(t *testing.T) {
	for _, net := range postNets() {
		eternals := eternalsTold(net)
		for _, list := range requestsOf(len(net)) {
			p := postTold(net, eternals, list)
			for place := range net {
				asked, ok := impl.PostAsk(p, place)
				told := postTold(net, eternals, append(append([]int{}, list...), place))
				if !ok || !samePost(asked, told) {
					t.Fatal(p, place, asked, ok)
				}
			}
		}
	}
}

func TestP71GetsAGuard(t *testing.T) {
	for _, net := range postNets() {
		p, ok := impl.PostNew(net)
		for _, place := range fullList(len(net)) {
			asked, good := impl.PostAsk(p, place)
			if !ok || !good || !impl.PostOk(asked) || !has(asked.Set, place) || size(asked.Set) != size(p.Set) {
				t.Fatal(p, place, asked)
			}
			if len(asked.Log) != len(p.Log)+3 || !sameBytes(asked.Log[:len(p.Log)], p.Log) || !sameList(asked.Net, net) {
				t.Fatal(p, place, asked)
			}
			p = asked
		}
		for place := range net {
			if asked, good := impl.PostAsk(p, place); !isNoPost(asked, good) {
				t.Fatal(p, place, asked)
			}
		}
	}
}

func TestP71Examples(t *testing.T) {
	p, ok := impl.PostAsk(impl.Post{Net: wayOf(4), Set: 5}, 3)
	if !ok || !samePost(p, impl.Post{Net: wayOf(4), Set: 9, Log: []byte{4, 1, 28}}) {
		t.Fatal(p)
	}
	p, ok = impl.PostAsk(p, 1)
	if !ok || !samePost(p, impl.Post{Net: wayOf(4), Set: 10, Log: []byte{4, 1, 28, 2, 2, 16}}) {
		t.Fatal(p)
	}
	// Nobody moves if there is a guard, but the request is written down.
	p, ok = impl.PostAsk(p, 3)
	if !ok || !samePost(p, impl.Post{Net: wayOf(4), Set: 10, Log: []byte{4, 1, 28, 2, 2, 16, 4, 3, 36}}) {
		t.Fatal(p)
	}
	p, ok = impl.PostAsk(impl.Post{Net: []int{0}, Set: 1}, 0)
	if !ok || !samePost(p, impl.Post{Net: []int{0}, Set: 1, Log: []byte{1, 1, 7}}) {
		t.Fatal(p)
	}
	p, ok = impl.PostAsk(impl.Post{Net: allNeighbours(), Set: 1}, 5)
	if !ok || !samePost(p, impl.Post{Net: allNeighbours(), Set: 32, Log: []byte{6, 1, 42}}) {
		t.Fatal(p)
	}
	p, ok = impl.PostAsk(impl.Post{Net: threePairs(), Set: 7}, 3)
	if !ok || !samePost(p, impl.Post{Net: threePairs(), Set: 11, Log: []byte{4, 1, 28}}) {
		t.Fatal(p)
	}
}

func TestP71Invalid(t *testing.T) {
	for _, list := range notNets() {
		for place := -1; place <= impl.MaxPlaces; place++ {
			for _, set := range []int{-1, 0, 1, 3, 63} {
				if p, ok := impl.PostAsk(impl.Post{Net: list, Set: set}, place); !isNoPost(p, ok) {
					t.Fatal(list, set, place, p)
				}
			}
		}
	}
	for _, net := range postNets() {
		p, _ := impl.PostNew(net)
		for _, no := range notPlaces(len(net)) {
			if asked, ok := impl.PostAsk(p, no); !isNoPost(asked, ok) {
				t.Fatal(p, no, asked)
			}
		}
	}
}

// otherPosts returns posts whose set or log is another one.
func otherPosts() []impl.Post {
	way := wayOf(4)
	return []impl.Post{
		{},
		{Net: way},
		{Net: way, Set: 9},
		{Net: way, Set: 10},
		{Net: way, Set: 15},
		{Net: way, Set: -1},
		{Net: way, Set: 5 + 16},
		{Net: way, Set: 5, Log: []byte{4}},
		{Net: way, Set: 5, Log: []byte{4, 1, 28}},
		{Net: way, Set: 9, Log: []byte{4, 1, 27}},
		{Net: way, Set: 9, Log: []byte{4, 1, 28, 0}},
		{Net: way, Set: 9, Log: []byte{4, 1, 28, 2, 2, 16}},
		{Net: way, Set: 5, Log: []byte{5, 1, 35}},
		{Net: []int{2, 5, 10, 0}, Set: 5},
		{Net: []int{0}, Set: 1, Log: logTold(rowLike(41, 0))},
	}
}

func TestP71OtherPosts(t *testing.T) {
	for _, p := range otherPosts() {
		for place := 0; place < 4; place++ {
			if asked, ok := impl.PostAsk(p, place); !isNoPost(asked, ok) {
				t.Fatal(p, place, asked)
			}
		}
	}
}

func TestP72Rise(t *testing.T) {
	for _, net := range postNets() {
		eternals := eternalsTold(net)
		for _, list := range [][]int{{}, {0}, {5}, {len(net) - 1, 0}, {0, 5, 0}, {0, len(net) - 1, len(net) / 2}} {
			for _, log := range bentLogs(logTold(list)) {
				risen, ok := impl.PostRise(net, log)
				if !ok || !samePost(risen, postTold(net, eternals, herePlaces(net, placesTold(log)))) {
					t.Fatal(net, log, risen, ok)
				}
			}
		}
	}
}

func TestP72IsAPost(t *testing.T) {
	for _, net := range fewNets() {
		log := logTold([]int{0, 2, 1, 3, 5, 4, 0})
		log[17]++
		for left := 0; left <= len(log); left++ {
			risen, ok := impl.PostRise(net, log[:left])
			if !ok || !impl.PostOk(risen) || len(risen.Log) > left || !sameBytes(risen.Log, log[:len(risen.Log)]) || !sameList(risen.Net, net) {
				t.Fatal(net, left, risen, ok)
			}
			if again, good := impl.PostRise(risen.Net, risen.Log); !good || !samePost(again, risen) {
				t.Fatal(net, left, again)
			}
		}
	}
}

func TestP72Examples(t *testing.T) {
	way := wayOf(4)
	log := []byte{4, 1, 28, 2, 2, 16, 9}
	for left, told := range []int{5, 5, 5, 9, 9, 9, 10, 10} {
		risen, ok := impl.PostRise(way, log[:left])
		if !ok || risen.Set != told || !sameBytes(risen.Log, log[:left/3*3]) {
			t.Fatal(left, risen)
		}
	}
	// The place 4 and all behind it are left out, and so is what is behind MaxAsked.
	risen, ok := impl.PostRise(way, logTold([]int{3, 4, 1}))
	if !ok || !samePost(risen, impl.Post{Net: way, Set: 9, Log: []byte{4, 1, 28}}) {
		t.Fatal(risen)
	}
	risen, ok = impl.PostRise([]int{2, 1}, logTold([]int{1, 0, 5, 1}))
	if !ok || !samePost(risen, impl.Post{Net: []int{2, 1}, Set: 1, Log: logTold([]int{1, 0})}) {
		t.Fatal(risen)
	}
	risen, ok = impl.PostRise([]int{0}, logTold(rowLike(50, 0)))
	if !ok || !samePost(risen, impl.Post{Net: []int{0}, Set: 1, Log: logTold(rowLike(40, 0))}) {
		t.Fatal(risen)
	}
	risen, ok = impl.PostRise(threePairs(), nil)
	if !ok || !samePost(risen, impl.Post{Net: threePairs(), Set: 7}) {
		t.Fatal(risen)
	}
}

func TestP72Invalid(t *testing.T) {
	for _, list := range notNets() {
		for _, log := range [][]byte{nil, {1, 1, 7}, {1}} {
			if p, ok := impl.PostRise(list, log); !isNoPost(p, ok) {
				t.Fatal(list, log, p)
			}
		}
	}
}

// askedOneByOne asks a new post for places.
func askedOneByOne(net []int, places []int) impl.Post {
	p, _ := impl.PostNew(net)
	for _, place := range places {
		p, _ = impl.PostAsk(p, place)
	}
	return p
}

func TestP73Cut(t *testing.T) {
	for _, net := range postNets() {
		for _, list := range requestsOf(len(net)) {
			p := askedOneByOne(net, list)
			for bytes := -3; bytes <= len(p.Log)+3; bytes++ {
				whole := min(max(bytes, 0), len(p.Log)) / 3
				cut, ok := impl.PostCut(p, bytes)
				if !ok || !samePost(cut, askedOneByOne(net, list[:whole])) {
					t.Fatal(p, bytes, cut, ok)
				}
			}
		}
	}
}

func TestP73FullLogs(t *testing.T) {
	for _, net := range [][]int{{0}, {2, 1}, wayOf(4), ringOfFive(), threePairs(), twoAndFour()} {
		eternals := eternalsTold(net)
		list := fullList(len(net))
		p := postTold(net, eternals, list)
		for bytes := 0; bytes <= 121; bytes++ {
			cut, ok := impl.PostCut(p, bytes)
			if !ok || !samePost(cut, postTold(net, eternals, list[:min(bytes, 120)/3])) {
				t.Fatal(net, bytes, cut, ok)
			}
		}
	}
}

func TestP73Examples(t *testing.T) {
	p := impl.Post{Net: wayOf(4), Set: 10, Log: []byte{4, 1, 28, 2, 2, 16}}
	for _, bytes := range []int{leastInt, -1 << 32, -1, 0, 1, 2} {
		if cut, ok := impl.PostCut(p, bytes); !ok || !samePost(cut, impl.Post{Net: wayOf(4), Set: 5}) {
			t.Fatal(bytes, cut)
		}
	}
	for _, bytes := range []int{3, 4, 5} {
		if cut, ok := impl.PostCut(p, bytes); !ok || !samePost(cut, impl.Post{Net: wayOf(4), Set: 9, Log: []byte{4, 1, 28}}) {
			t.Fatal(bytes, cut)
		}
	}
	for _, bytes := range []int{6, 7, 120, 1 << 32, mostInt} {
		if cut, ok := impl.PostCut(p, bytes); !ok || !samePost(cut, p) {
			t.Fatal(bytes, cut)
		}
	}
}

func TestP73Invalid(t *testing.T) {
	for _, p := range otherPosts() {
		for _, bytes := range []int{leastInt, -1, 0, 1, 3, 6, 120, mostInt} {
			if cut, ok := impl.PostCut(p, bytes); !isNoPost(cut, ok) {
				t.Fatal(p, bytes, cut)
			}
		}
	}
	for _, list := range notNets() {
		for bytes := -1; bytes <= 3; bytes++ {
			if cut, ok := impl.PostCut(impl.Post{Net: list, Set: 1}, bytes); !isNoPost(cut, ok) {
				t.Fatal(list, bytes, cut)
			}
		}
	}
}

func TestP97First(t *testing.T) {
	for _, net := range netsUpTo(impl.MaxPlaces) {
		if first := impl.FirstPost(net); first != firstTold(eternalsTold(net)) {
			t.Fatal(net, first)
		}
	}
}

func TestP97Lasts(t *testing.T) {
	for _, net := range manyNets() {
		first := impl.FirstPost(net)
		fewest := impl.FewestEternal(net)
		if !impl.EternalOk(net, first) || size(first) != fewest {
			t.Fatal(net, first)
		}
		for set := 0; set < first; set++ {
			if size(set) == fewest && impl.EternalOk(net, set) {
				t.Fatal(net, first, set)
			}
		}
	}
}

func TestP97Examples(t *testing.T) {
	for places := 2; places <= impl.MaxPlaces; places++ {
		if impl.FirstPost(make([]int, places)) != 1<<places-1 || impl.FirstPost(fullNet(places)) != 1 || impl.FirstPost(starAt(places, places-1)) != 1<<(places-1)-1 {
			t.Fatal(places)
		}
	}
	if impl.FirstPost([]int{0}) != 1 || impl.FirstPost(wayOf(4)) != 5 || impl.FirstPost(threePairs()) != 7 || impl.FirstPost(netOf(3, 0, 1)) != 5 || impl.FirstPost(wayOf(3)) != 3 {
		t.Fatal("ways and parts")
	}
	if impl.FirstPost(ringOfSix()) != 11 || impl.FirstPost(ringOfFive()) != 7 || impl.FirstPost(twoAndFour()) != 15 {
		t.Fatal("rings")
	}
	// A lesser set of as many places watches here, but not for ever.
	if net := netOf(5, 0, 3, 0, 4, 1, 2); impl.FirstPost(net) != 11 || !impl.WatchOk(net, 7) {
		t.Fatal("a star and a pair")
	}
}

func TestP97Invalid(t *testing.T) {
	for _, list := range notNets() {
		if impl.FirstPost(list) != -1 {
			t.Fatal(list)
		}
	}
}

func TestP98New(t *testing.T) {
	for _, net := range manyNets() {
		p, ok := impl.PostNew(net)
		risen, good := impl.PostRise(net, p.Log)
		if !ok || !samePost(p, impl.Post{Net: net, Set: impl.FirstPost(net)}) || !impl.PostOk(p) || !good || !samePost(risen, p) {
			t.Fatal(net, p, risen)
		}
	}
}

func TestP98Examples(t *testing.T) {
	p, ok := impl.PostNew([]int{0})
	if !ok || !samePost(p, impl.Post{Net: []int{0}, Set: 1}) {
		t.Fatal(p)
	}
	p, ok = impl.PostNew(wayOf(4))
	if !ok || !samePost(p, impl.Post{Net: []int{2, 5, 10, 4}, Set: 5}) {
		t.Fatal(p)
	}
	p, ok = impl.PostNew(make([]int, 6))
	if !ok || !samePost(p, impl.Post{Net: make([]int, 6), Set: 63}) {
		t.Fatal(p)
	}
	p, ok = impl.PostNew(allNeighbours())
	if !ok || !samePost(p, impl.Post{Net: allNeighbours(), Set: 1}) {
		t.Fatal(p)
	}
}

func TestP98Invalid(t *testing.T) {
	for _, list := range notNets() {
		if p, ok := impl.PostNew(list); !isNoPost(p, ok) {
			t.Fatal(list, p)
		}
	}
}

// askChapter17 calls the functions of the chapter that take a net and a log.
func askChapter17(net []int, set int, log []byte) {
	impl.LogPlaces(log)
	impl.PostRise(net, log)
	p := impl.Post{Net: net, Set: set, Log: log}
	impl.PostOk(p)
	for number := -1; number <= 7; number++ {
		impl.PostAsk(p, number)
		impl.PostCut(p, number)
	}
}

func TestChapter17WritesNothing(t *testing.T) {
	for _, net := range append(postNets(), notNets()...) {
		lentNet := lent(net)
		impl.FirstPost(lentNet)
		impl.PostNew(lentNet)
		for _, list := range [][]int{{}, {0}, {1, 0}, {2, 0, 1}, {5}} {
			lentList := lent(list)
			log := impl.LogOf(lentList)
			lentLog := lentBytes(log)
			p, _ := impl.PostRise(net, log)
			askChapter17(lentNet, p.Set, lentLog)
			askChapter17(lentNet, 0, lentLog)
			if !untouched(lentNet, net) || !untouched(lentList, list) || !untouchedBytes(lentLog, log) {
				t.Fatal(net, list)
			}
		}
	}
}

func spoilPost(p impl.Post) {
	spoil(p.Net)
	spoilBytes(p.Log)
}

func TestChapter17AnswersAreNew(t *testing.T) {
	for _, net := range postNets() {
		right := askedOneByOne(net, []int{0, len(net) - 1})
		p := impl.Post{Net: lent(net), Set: right.Set, Log: lentBytes(right.Log)}
		asked, _ := impl.PostAsk(p, 0)
		again, _ := impl.PostAsk(p, 0)
		cut, _ := impl.PostCut(p, 120)
		risen, _ := impl.PostRise(p.Net, p.Log)
		first, _ := impl.PostNew(p.Net)
		places, _ := impl.LogPlaces(p.Log)
		spoilPost(asked)
		spoilPost(cut)
		spoilPost(risen)
		spoilPost(first)
		spoil(places)
		if !untouched(p.Net, net) || !untouchedBytes(p.Log, right.Log) || !samePost(again, askedOneByOne(net, []int{0, len(net) - 1, 0})) {
			t.Fatal(net, p, again)
		}
	}
}
