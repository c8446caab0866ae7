package tests

import (
	"testing"

	"loop.example/guardsonnets/impl"
)

const digits = "0123456789"

func digitTold(number int) string {
	return digits[number : number+1]
}

// textTold writes a wire for each pair of neighbours, from the greatest one back to the front.
func textTold(net []int) string {
	text := ""
	for a := len(net) - 1; a >= 0; a-- {
		for b := len(net) - 1; b > a; b-- {
			if near(net, a, b) {
				text = " " + digitTold(a) + "-" + digitTold(b) + text
			}
		}
	}
	return digitTold(len(net)) + text
}

// isText asks of each byte of a text whether it can stand there.
func isText(s string) bool {
	if len(s)%4 != 1 || s[0] < '1' || s[0] > '6' {
		return false
	}
	ahead := ""
	for at := 1; at < len(s); at += 4 {
		wire := s[at+1 : at+4]
		if s[at] != ' ' || wire[0] < '0' || wire[0] >= wire[2] || wire[2] >= s[0] || wire[1] != '-' || wire <= ahead {
			return false
		}
		ahead = wire
	}
	return true
}

// bentTexts returns texts in which one byte is another one, is missing, is there twice, or has a byte ahead of it.
func bentTexts(s string) []string {
	bytes := []string{" ", "-", "0", "1", "2", "3", "4", "5", "6", "7", "9", "+", ".", "\t", "\n", "\x00", "\xff", "a", "/", ":"}
	texts := []string{}
	for at := 0; at <= len(s); at++ {
		for _, one := range bytes {
			texts = append(texts, s[:at]+one+s[at:])
			if at < len(s) {
				texts = append(texts, s[:at]+one+s[at+1:])
			}
		}
		texts = append(texts, s[:at], s[at:], s+s[at:], s[:at]+s)
		if at < len(s) {
			texts = append(texts, s[:at]+s[at+1:])
		}
	}
	return texts
}

// bytesTold returns the number of places, the rows, and the sum of all of them modulo 251, counted one by one.
func bytesTold(net []int) []byte {
	numbers := append([]int{len(net)}, net...)
	bytes := []byte{}
	sum := 0
	for _, number := range numbers {
		bytes = append(bytes, byte(number))
		for k := 0; k < number; k++ {
			sum++
			if sum == 251 {
				sum = 0
			}
		}
	}
	return append(bytes, byte(sum))
}

// fromTold looks for the net of which bytes are told among those of a number of places.
func fromTold(b []byte) bool {
	if len(b) == 0 || b[0] < 1 || b[0] > 6 || len(b) != int(b[0])+2 {
		return false
	}
	net := []int{}
	for _, one := range b[1 : len(b)-1] {
		net = append(net, int(one))
	}
	return impl.NetOk(net) && sameBytes(bytesTold(net), b)
}

// bentBytes returns bytes in which one is another one, is missing, is there twice, or has one more ahead of it.
func bentBytes(b []byte) [][]byte {
	lists := [][]byte{}
	for at := 0; at <= len(b); at++ {
		head := append([]byte{}, b[:at]...)
		lists = append(lists, head, append([]byte{}, b[at:]...))
		for _, one := range []byte{0, 1, 2, 6, 7, 64, 128, 251, 255} {
			longer := append(append([]byte{}, head...), one)
			lists = append(lists, append(longer, b[at:]...))
		}
		if at < len(b) {
			lists = append(lists, append(append([]byte{}, head...), b[at+1:]...))
			for one := 0; one <= 255; one++ {
				other := append([]byte{}, b...)
				other[at] = byte(one)
				lists = append(lists, other)
			}
		}
	}
	return lists
}

// wordAndNumber is a word, and the number of a net for which it asks.
type wordAndNumber struct {
	word   string
	number int
}

func numbersTold(net []int) []wordAndNumber {
	return []wordAndNumber{
		{"watch", impl.FewestWatch(net)},
		{"total", impl.FewestTotal(net)},
		{"joined", impl.FewestJoined(net)},
		{"roman", impl.FewestRoman(net)},
		{"italian", impl.FewestItalian(net)},
		{"secure", impl.FewestSecure(net)},
		{"weak", impl.FewestWeak(net)},
		{"eternal", impl.FewestEternal(net)},
		{"all", impl.FewestAllEternal(net)},
		{"apart", impl.MostApart(net)},
		{"packed", impl.MostPacked(net)},
		{"game", impl.GameMoves(net, 0, true)},
		{"cliques", impl.FewestCliques(net)},
	}
}

// inDecimal tells a number of a net, or that there is none.
func inDecimal(number int) string {
	if number == -1 {
		return "none"
	}
	return digitTold(number)
}

// noLines returns a line for each way in which a line is none.
func noLines() []string {
	blanks := "                                                                                                     "
	return []string{
		"", " ", "  ", "watch", "watch ", " watch 1", "watch  1", "watch 1 ", " 1", "1", "1 ", "1 watch", "watch1", "watch\t1", "watch 1\n", "watch 1\x00",
		"Watch 1", "WATCH 1", "watc 1", "watches 1", "what 1", "none 1", "dance 1", "watch watch 1", "watch,all 1", "\xff 1", "\x00 1", "watch\x00 1", "guards 1", "italians 1",
		"watch 0", "watch 7", "watch 10", "watch 01", "watch -1", "watch +1", "watch 1.0", "watch x", "watch \xff", "watch 2 0-2", "watch 2 0-0", "watch 2 1-0", "watch 2 0 1", "watch 2 0-1 0-1", "watch 3 1-2 0-1", "watch 2  0-1", "watch 2 0-1 ", "watch 2 0--1", "watch 2 0-01", "watch 2 00-1", "watch 20-1", "watch 2 0-", "watch 2 -1", "watch 2 0_1",
		"watch 4 1-0", "watch 4 0-1,1-2", "watch 4 0-1 1-2 2-3 ", "total 1 watch 1", "watch 1 1",
		"watch 1" + blanks, blanks, blanks + "watch 1", "watch " + blanks + "1", "watch 2 0-1" + blanks + blanks + blanks, "watch" + blanks[:95],
	}
}

func TestP59Text(t *testing.T) {
	for _, net := range netsUpTo(impl.MaxPlaces) {
		if text := impl.NetText(net); text != textTold(net) || text == "" {
			t.Fatal(net, text)
		}
	}
}

func TestP59ReadBack(t *testing.T) {
	for _, net := range netsUpTo(impl.MaxPlaces) {
		if read, ok := impl.NetRead(impl.NetText(net)); !ok || !sameList(read, net) {
			t.Fatal(net, read, ok)
		}
	}
}

func TestP59Examples(t *testing.T) {
	if impl.NetText([]int{2, 5, 10, 4}) != "4 0-1 1-2 2-3" || impl.NetText([]int{0}) != "1" || impl.NetText(make([]int, 6)) != "6" || impl.NetText([]int{2, 1}) != "2 0-1" {
		t.Fatal("ways and no wires")
	}
	if impl.NetText(allNeighbours()) != "6 0-1 0-2 0-3 0-4 0-5 1-2 1-3 1-4 1-5 2-3 2-4 2-5 3-4 3-5 4-5" || impl.NetText(ringOfSix()) != "6 0-1 0-5 1-2 2-3 3-4 4-5" || impl.NetText(threePairs()) != "6 0-5 1-4 2-3" {
		t.Fatal("all are neighbours, a ring and pairs")
	}
	if impl.NetText(starAt(4, 3)) != "4 0-3 1-3 2-3" || impl.NetText(netOf(3, 1, 2)) != "3 1-2" {
		t.Fatal("a star and a lone place")
	}
}

func TestP59Invalid(t *testing.T) {
	for _, list := range notNets() {
		if impl.NetText(list) != "" {
			t.Fatal(list, impl.NetText(list))
		}
	}
}

func TestP60From(t *testing.T) {
	for _, net := range fewNets() {
		for _, b := range bentBytes(impl.NetBytes(net)) {
			read, ok := impl.NetFrom(b)
			if ok != fromTold(b) || ok && !sameBytes(impl.NetBytes(read), b) || !ok && len(read) != 0 {
				t.Fatal(net, b, read, ok)
			}
		}
	}
}

func TestP60JustTheseBytes(t *testing.T) {
	for _, net := range netsUpTo(impl.MaxPlaces) {
		b := impl.NetBytes(net)
		if _, ok := impl.NetFrom(b[:len(b)-1]); ok {
			t.Fatal(net, "one byte less")
		}
		if _, ok := impl.NetFrom(b[1:]); ok {
			t.Fatal(net, "no number of places")
		}
		if _, ok := impl.NetFrom(append(append([]byte{}, b...), 0)); ok {
			t.Fatal(net, "a byte that is left")
		}
		b[len(b)-1]++
		if _, ok := impl.NetFrom(b); ok {
			t.Fatal(net, "another sum")
		}
	}
}

func TestP60ShortBytes(t *testing.T) {
	for a := 0; a <= 8; a++ {
		for b := 0; b <= 8; b++ {
			for _, list := range [][]byte{{byte(a)}, {byte(a), byte(b)}, {byte(a), byte(b), byte(a + b)}, {byte(a), byte(b), 0, byte(a + b)}, {byte(a), byte(b), byte(b / 2), byte(a + b + b/2)}} {
				if _, ok := impl.NetFrom(list); ok != fromTold(list) {
					t.Fatal(list, ok)
				}
			}
		}
	}
}

func TestP60Invalid(t *testing.T) {
	lists := [][]byte{nil, {}, {0}, {1}, {0, 0}, {1, 1}, {0, 0, 0}, {2, 0, 2}, {1, 0, 252}, {1, 1, 2}, {2, 3, 3, 8}, {2, 2, 0, 4}, {2, 0, 1, 3}, {2, 4, 0, 6}, {7, 0, 0, 0, 0, 0, 0, 0, 7}, {255, 0, 255 - 251}, {1, 0, 0, 1}, make([]byte, 1000)}
	for _, list := range lists {
		if read, ok := impl.NetFrom(list); ok || len(read) != 0 {
			t.Fatal(list, read, ok)
		}
	}
	// The sum of six places that are all neighbours is more than 251.
	if read, ok := impl.NetFrom([]byte{6, 62, 61, 59, 55, 47, 31, 70}); !ok || !sameList(read, allNeighbours()) {
		t.Fatal(read, ok)
	}
	// It is not the sum itself, nor its lowest byte.
	if _, ok := impl.NetFrom([]byte{6, 62, 61, 59, 55, 47, 31, 321 - 256}); ok {
		t.Fatal("another sum")
	}
}

func TestP89Read(t *testing.T) {
	nets := append(fewNets(), allNeighbours(), ringOfSix(), threePairs())
	for _, net := range nets {
		for _, s := range bentTexts(impl.NetText(net)) {
			read, ok := impl.NetRead(s)
			if ok != isText(s) || ok && textTold(read) != s || !ok && len(read) != 0 {
				t.Fatal(net, s, read, ok)
			}
		}
	}
}

func TestP89JustThisText(t *testing.T) {
	for places := 1; places <= 7; places++ {
		for wires := 0; wires < 64*64; wires++ {
			s := digitTold(places) + " " + digitTold(wires/512%8) + "-" + digitTold(wires/64%8) + " " + digitTold(wires/8%8) + "-" + digitTold(wires%8)
			read, ok := impl.NetRead(s)
			if ok != isText(s) || ok && impl.NetText(read) != s {
				t.Fatal(s, read, ok)
			}
		}
	}
}

func TestP89Examples(t *testing.T) {
	for _, s := range []string{"1", "2", "6", "2 0-1", "3 0-2", "4 0-1 1-2 2-3", "6 0-5", "6 0-1 0-2 0-3 0-4 0-5 1-2 1-3 1-4 1-5 2-3 2-4 2-5 3-4 3-5 4-5"} {
		if read, ok := impl.NetRead(s); !ok || impl.NetText(read) != s {
			t.Fatal(s, read, ok)
		}
	}
}

func TestP89Invalid(t *testing.T) {
	texts := []string{
		"", " ", "0", "7", "9", "10", "60", "04", "01", "001", "-1", "+1", "1.", "1 ", " 1", "1\n", "1\x00", "\x001", "a", "\xff", "4 ", "4  ", "\t4", "4\t0-1",
		"4 1-0", "4 3-2", "4 1-2 0-1", "4 0-2 0-1", "4 0-1 0-1", "4 0-1 1-0", "4 0-0", "4 3-3", "4 0-4", "4 4-5", "4 0-9", "1 0-1", "1 0-0",
		"4 00-1", "4 0-01", "4 00-01", "04 0-1", "4 0-1 1-02", "4 0 -1", "4 0- 1", "4 0 1", "4 01", "4 0--1", "4 0+1", "4 0:1", "4 -1", "4 0-", "4 -", "4 0", "4 0-1-2", "4 0-1,1-2", "4,0-1", "40-1", "4 0-11-2",
		"4 0-1 ", " 4 0-1", "4  0-1", "4 0-1  1-2", "4 0-1 1-2 2-3 ", "4 0-1\n", "4 0-1 1-2 2-", "4 0-1 1", "4 a-b", "4 0-b", "4 \xff-1", "4 0\xff1", "4 0-1x", "4 0-1 x", "x4 0-1", "4x", "4x 0-1", "4 0-1 1-2 3-2", "4 0-\x01",
	}
	for _, s := range texts {
		if read, ok := impl.NetRead(s); ok || len(read) != 0 {
			t.Fatal(s, read, ok)
		}
	}
	long := ""
	for len(long) <= impl.MaxLine {
		long += " 0-1"
		if _, ok := impl.NetRead("2 0-1" + long); ok {
			t.Fatal(long)
		}
	}
}

func TestP90Bytes(t *testing.T) {
	for _, net := range netsUpTo(impl.MaxPlaces) {
		b := impl.NetBytes(net)
		read, ok := impl.NetFrom(b)
		if len(b) != len(net)+2 || !sameBytes(b, bytesTold(net)) || !ok || !sameList(read, net) {
			t.Fatal(net, b, read, ok)
		}
	}
}

func TestP90Examples(t *testing.T) {
	if !sameBytes(impl.NetBytes([]int{0}), []byte{1, 0, 1}) || !sameBytes(impl.NetBytes([]int{2, 1}), []byte{2, 2, 1, 5}) || !sameBytes(impl.NetBytes([]int{2, 5, 10, 4}), []byte{4, 2, 5, 10, 4, 25}) {
		t.Fatal("ways")
	}
	if !sameBytes(impl.NetBytes(make([]int, 6)), []byte{6, 0, 0, 0, 0, 0, 0, 6}) || !sameBytes(impl.NetBytes(allNeighbours()), []byte{6, 62, 61, 59, 55, 47, 31, 70}) || !sameBytes(impl.NetBytes(threePairs()), []byte{6, 32, 16, 8, 4, 2, 1, 69}) {
		t.Fatal("six places")
	}
}

func TestP90Invalid(t *testing.T) {
	for _, list := range notNets() {
		if len(impl.NetBytes(list)) != 0 {
			t.Fatal(list)
		}
	}
}

func TestP91Words(t *testing.T) {
	for _, net := range fewNets() {
		for _, one := range numbersTold(net) {
			line := one.word + " " + textTold(net)
			if answer := impl.LineTold(line); answer != inDecimal(one.number) {
				t.Fatal(line, answer)
			}
		}
	}
}

func TestP91Apart(t *testing.T) {
	for _, net := range netsUpTo(impl.MaxPlaces) {
		apart := impl.MostApart(net)
		if answer := impl.LineTold("apart " + impl.NetText(net)); answer != impl.NetText(make([]int, apart)) || answer != digitTold(apart) {
			t.Fatal(net, answer)
		}
	}
}

func TestP91Examples(t *testing.T) {
	lines := [][]string{
		{"watch 4 0-1 1-2 2-3", "2"},
		{"total 4 0-1 1-2 2-3", "2"},
		{"joined 4 0-1 1-2 2-3", "2"},
		{"roman 4 0-1 1-2 2-3", "3"},
		{"eternal 4 0-1 1-2 2-3", "2"},
		{"joined 2", "none"},
		{"game 4 0-1 0-2 0-3", "1"},
		{"secure 4 0-1 0-2 0-3", "3"},
		{"all 4 0-1 0-2 0-3", "2"},
		{"cliques 5 0-1 0-4 1-2 2-3 3-4", "3"},
		{"watch 4 1-0", "what"},
		{"total 1", "none"},
		{"italian 4 0-1 0-3 1-2 2-3", "2"},
		{"roman 4 0-1 0-3 1-2 2-3", "3"},
		{"weak 4 0-1 0-2 0-3", "2"},
		{"packed 4 0-1 0-3 1-2 2-3", "1"},
		{"apart 6", "6"},
		{"watch 6 0-1 0-2 0-3 0-4 0-5 1-2 1-3 1-4 1-5 2-3 2-4 2-5 3-4 3-5 4-5", "1"},
		{"italian 6 0-1 0-2 0-3 0-4 0-5 1-2 1-3 1-4 1-5 2-3 2-4 2-5 3-4 3-5 4-5", "2"},
	}
	for _, line := range lines {
		if answer := impl.LineTold(line[0]); answer != line[1] {
			t.Fatal(line, answer)
		}
	}
}

func TestP91What(t *testing.T) {
	for _, line := range noLines() {
		if answer := impl.LineTold(line); answer != "what" {
			t.Fatal(line, answer)
		}
	}
}

func TestP91BentLines(t *testing.T) {
	net := wayOf(4)
	for _, one := range numbersTold(net) {
		right := one.word + " 4 0-1 1-2 2-3"
		for _, line := range bentTexts(right) {
			answer := impl.LineTold(line)
			if len(line) > len(one.word) && line[:len(one.word)+1] == one.word+" " && isText(line[len(one.word)+1:]) {
				if answer == "what" {
					t.Fatal(line, answer)
				}
			} else if answer != "what" {
				t.Fatal(line, answer)
			}
		}
	}
}

func TestP91LongLines(t *testing.T) {
	if impl.MaxLine != 100 {
		t.Fatal(impl.MaxLine)
	}
	line := "watch 2 0-1"
	for len(line) <= impl.MaxLine+20 {
		line += " "
		if impl.LineTold(line) != "what" || impl.LineTold(line+"0-1") != "what" || impl.LineTold(line+"x") != "what" {
			t.Fatal(line)
		}
	}
	word := "watch"
	for len(word) <= impl.MaxLine+20 {
		word += "h"
		if impl.LineTold(word) != "what" || impl.LineTold(word+" 1") != "what" {
			t.Fatal(word)
		}
	}
}

func TestP92Lines(t *testing.T) {
	lines := []string{}
	told := []string{}
	whats := 0
	for k, net := range netsUpTo(4) {
		words := numbersTold(net)
		lines = append(lines, words[k%13].word+" "+textTold(net))
		told = append(told, inDecimal(words[k%13].number))
		if k%3 == 0 {
			lines = append(lines, noLines()[k/3%len(noLines())])
			told = append(told, "what")
			whats++
		}
		answers, many := impl.LinesTold(lines)
		if !sameTexts(answers, told) || many != whats {
			t.Fatal(lines, answers, many)
		}
	}
}

func TestP92OneByOne(t *testing.T) {
	lines := append(noLines(), "watch 1", "joined 2", "total 1", "game 3 0-1", "what", "watch 1")
	answers, many := impl.LinesTold(lines)
	if len(answers) != len(lines) || many != len(noLines())+1 {
		t.Fatal(answers, many)
	}
	for k, line := range lines {
		if answers[k] != impl.LineTold(line) {
			t.Fatal(line, answers[k])
		}
	}
}

func TestP92Examples(t *testing.T) {
	if answers, many := impl.LinesTold(nil); len(answers) != 0 || many != 0 {
		t.Fatal(answers, many)
	}
	if answers, many := impl.LinesTold([]string{}); len(answers) != 0 || many != 0 {
		t.Fatal(answers, many)
	}
	if answers, many := impl.LinesTold([]string{""}); !sameTexts(answers, []string{"what"}) || many != 1 {
		t.Fatal(answers, many)
	}
	// A line that has no answer is none, and not what.
	if answers, many := impl.LinesTold([]string{"joined 2", "watch 4 1-0", "watch 1", "watch 1"}); !sameTexts(answers, []string{"none", "what", "1", "1"}) || many != 1 {
		t.Fatal(answers, many)
	}
}

func TestChapter14WritesNothing(t *testing.T) {
	for _, list := range listsToLend() {
		lentList := lent(list)
		impl.NetText(lentList)
		impl.NetBytes(lentList)
		if !untouched(lentList, list) {
			t.Fatal(list)
		}
	}
	for _, net := range fewNets() {
		for _, b := range bentBytes(impl.NetBytes(net)) {
			lentOnes := lentBytes(b)
			impl.NetFrom(lentOnes)
			if !untouchedBytes(lentOnes, b) {
				t.Fatal(b)
			}
		}
	}
	lines := append(noLines(), "watch 1", "joined 2")
	was := append([]string{}, lines...)
	impl.LinesTold(lines[:len(lines)-1])
	if !sameTexts(lines, was) {
		t.Fatal(lines)
	}
}

func TestChapter14AnswersAreNew(t *testing.T) {
	for _, net := range fewNets() {
		lentNet := lent(net)
		b := impl.NetBytes(lentNet)
		lentOnes := lentBytes(b)
		spoilBytes(b)
		from, _ := impl.NetFrom(lentOnes)
		spoil(from)
		read, _ := impl.NetRead(impl.NetText(lentNet))
		spoil(read)
		again, _ := impl.NetRead(impl.NetText(lentNet))
		if !untouched(lentNet, net) || !untouchedBytes(lentOnes, bytesTold(net)) || !sameBytes(impl.NetBytes(lentNet), bytesTold(net)) || !sameList(again, net) {
			t.Fatal(net)
		}
	}
	lines := []string{"watch 1", "joined 2", "dance 1"}
	answers, _ := impl.LinesTold(lines[:2])
	answers[0] = "spoilt"
	answers = append(answers, "spoilt")
	if !sameTexts(lines, []string{"watch 1", "joined 2", "dance 1"}) || answers[1] != "none" {
		t.Fatal(lines, answers)
	}
}
