package tests

import (
	"math"
	"slices"
	"testing"

	"loop.example/g00846/impl"
)

// cardElements are the elements that stand for a card: those of card i are the i-th ones of both lists.
var (
	downElements = []int{0, 1, 2, 3, 4, 5, 6, 7, 8, 9, 10, 11}
	upElements   = []int{-1, -2, -3, -4, -5, -6, -7, -8, -9, -10, -11, -12}
)

// noCardElements stand for no card.
var noCardElements = []int{
	12, 13, 14, 23, 24, 40, 100, 255, 256, 1 << 32, 1<<32 + 3, 1 << 62, math.MaxInt64 - 1, math.MaxInt64,
	-13, -14, -15, -24, -25, -40, -100, -256, -257, -1 << 32, -1<<32 - 4, -1 << 62, math.MinInt64 + 1, math.MinInt64,
}

// listsOver returns all lists of at most n of the given elements.
func listsOver(elements []int, n int) [][]int {
	lists := [][]int{nil}
	for from := 0; n > 0; n-- {
		to := len(lists)
		for _, list := range lists[from:to] {
			for _, x := range elements {
				lists = append(lists, append(slices.Clone(list), x))
			}
		}
		from = to
	}
	return lists
}

// fewElements are two cards of both sides at each end of the numbers, and elements beside them that stand for no card.
var fewElements = []int{0, 1, 10, 11, -1, -2, -11, -12, 12, -13}

// repeated returns a list of n equal elements.
func repeated(x int, n int) []int { return slices.Repeat([]int{x}, n) }

// turned returns the list with each element of a card turned over where a bit of up is 1.
func turned(p []int, up int) []int {
	q := slices.Clone(p)
	for i := range q {
		if up>>i&1 == 1 {
			q[i] = -1 - q[i]
		}
	}
	return q
}

// tableCard finds the card and the side of an element in the two lists above.
func tableCard(x int) (card int, up bool) {
	if i := slices.Index(upElements, x); i >= 0 {
		return i, true
	}
	return slices.Index(downElements, x), false
}

// tableOk decides by comparing each two elements whether a list is a packet.
func tableOk(p []int) bool {
	for i, x := range p {
		card, _ := tableCard(x)
		if card < 0 {
			return false
		}
		for _, y := range p[:i] {
			if other, _ := tableCard(y); other == card {
				return false
			}
		}
	}
	return len(p) <= 12
}

func TestP1PacketIsRecoveredFromCardsAndSides(t *testing.T) {
	for _, p := range listsOver(fewElements, 4) {
		if !impl.PacketOk(p) {
			continue
		}
		var back []int
		for _, x := range p {
			y := impl.CardOf(x)
			if impl.IsUp(x) {
				y = impl.TurnCard(y)
			}
			back = append(back, y)
		}
		if !impl.SamePacket(p, back) {
			t.Errorf("%v is recovered as %v", p, back)
		}
	}
}

func TestP1TurningTwiceRecoversTheElement(t *testing.T) {
	for _, x := range slices.Concat(downElements, upElements) {
		y := impl.TurnCard(x)
		if y == x || impl.CardOf(y) != impl.CardOf(x) || impl.IsUp(y) == impl.IsUp(x) || impl.TurnCard(y) != x {
			t.Errorf("%d is turned to %d and then to %d", x, y, impl.TurnCard(y))
		}
	}
	for _, x := range noCardElements {
		if y := impl.TurnCard(x); y != x {
			t.Errorf("%d, which is no card, is turned to %d", x, y)
		}
	}
}

func TestP1PacketHoldsItsCards(t *testing.T) {
	for _, p := range listsOver(fewElements, 4) {
		if !impl.PacketOk(p) {
			continue
		}
		up := 0
		for i, x := range p {
			if at := impl.PositionOf(p, impl.CardOf(x)); at != i {
				t.Errorf("the card at %d of %v is found at %d", i, p, at)
			}
			if impl.IsUp(x) {
				up++
			}
		}
		if got := impl.CountUp(p); got != up {
			t.Errorf("CountUp(%v) = %d, want %d", p, got, up)
		}
	}
}

func TestP9MaxCards(t *testing.T) {
	if impl.MaxCards != 12 {
		t.Errorf("MaxCards is %d", impl.MaxCards)
	}
}

func TestP9PacketOk(t *testing.T) {
	for _, p := range [][]int{
		nil, {}, {0}, {11}, {-1}, {-12}, {0, -2, 11}, {3, -3, 1}, downElements, upElements, turned(downElements, 0x555), turned(upElements, 0xf0f),
		{11, -11, 9, -9, 7, -7, 5, -5, 3, -3, 1, -1},
	} {
		if !impl.PacketOk(p) {
			t.Errorf("PacketOk(%v) is false", p)
		}
	}
	for _, p := range [][]int{
		{0, 0}, {0, -1}, {-1, 0}, {-1, -1}, {11, -12}, {5, 1, 2, -6}, {1, 2, 1}, {12}, {-13}, {0, 12}, {-13, 0}, {0, 1, 2, 40},
		append(slices.Clone(downElements), 0), append(slices.Clone(downElements), -1), append(slices.Clone(downElements), 12),
		append(slices.Clone(upElements), -13), append(slices.Clone(upElements[1:]), -12),
		repeated(0, 13), repeated(0, 5000), repeated(12, 12),
	} {
		if impl.PacketOk(p) {
			t.Errorf("PacketOk(%v) is true", p)
		}
	}
	for _, x := range noCardElements {
		for _, p := range [][]int{{x}, {x, 0}, {0, x}, {-1, x, 1}, {x, x}} {
			if impl.PacketOk(p) {
				t.Errorf("PacketOk(%v) is true", p)
			}
		}
	}
	for _, p := range listsOver(fewElements, 4) {
		if got := impl.PacketOk(p); got != tableOk(p) {
			t.Errorf("PacketOk(%v) = %t", p, got)
		}
	}
}

func TestP9PacketOkForEachCardTwice(t *testing.T) {
	for i := range downElements {
		for j := range i {
			for up := range 4 {
				p := slices.Clone(downElements)
				p[i], p[j] = turned([]int{j}, up&1)[0], turned([]int{j}, up>>1)[0]
				if impl.PacketOk(p) {
					t.Errorf("PacketOk(%v) is true, with the card %d twice", p, j)
				}
				p[i] = turned([]int{i}, up&1)[0]
				if !impl.PacketOk(p) {
					t.Errorf("PacketOk(%v) is false", p)
				}
			}
		}
	}
}

func TestP9CardOfAndIsUp(t *testing.T) {
	for card := range 12 {
		for _, x := range []int{downElements[card], upElements[card]} {
			if got := impl.CardOf(x); got != card {
				t.Errorf("CardOf(%d) = %d, want %d", x, got, card)
			}
		}
		if impl.IsUp(downElements[card]) || !impl.IsUp(upElements[card]) {
			t.Errorf("IsUp is wrong for the card %d", card)
		}
	}
	for _, x := range noCardElements {
		if got := impl.CardOf(x); got != -1 {
			t.Errorf("CardOf(%d) = %d, want -1", x, got)
		}
		if impl.IsUp(x) {
			t.Errorf("IsUp(%d) is true", x)
		}
	}
	for _, x := range sampleInts() {
		card, up := tableCard(x)
		if impl.CardOf(x) != card || impl.IsUp(x) != up {
			t.Errorf("%d is the card %d, face up %t; want %d, %t", x, impl.CardOf(x), impl.IsUp(x), card, up)
		}
	}
}

func TestP9TurnCard(t *testing.T) {
	for card := range 12 {
		if got := impl.TurnCard(downElements[card]); got != upElements[card] {
			t.Errorf("TurnCard(%d) = %d", downElements[card], got)
		}
		if got := impl.TurnCard(upElements[card]); got != downElements[card] {
			t.Errorf("TurnCard(%d) = %d", upElements[card], got)
		}
	}
	for _, x := range sampleInts() {
		if card, _ := tableCard(x); card < 0 && impl.TurnCard(x) != x {
			t.Errorf("TurnCard(%d) = %d", x, impl.TurnCard(x))
		}
	}
}

func TestP9CountUp(t *testing.T) {
	for _, c := range []struct {
		p    []int
		want int
	}{
		{nil, 0}, {[]int{}, 0}, {[]int{0}, 0}, {[]int{-1}, 1}, {[]int{-12}, 1}, {[]int{0, -2, -5, -40}, 2}, {downElements, 0}, {upElements, 12},
		// The list need not be a packet: a card that comes again counts again, and what is no card does not count.
		{[]int{-1, -1, 0}, 2}, {[]int{-13, 12, math.MinInt64}, 0}, {repeated(-7, 13), 13}, {repeated(-12, 5000), 5000}, {noCardElements, 0},
	} {
		if got := impl.CountUp(c.p); got != c.want {
			t.Errorf("CountUp(%v) = %d, want %d", c.p, got, c.want)
		}
	}
	for _, p := range listsOver(fewElements, 4) {
		want := 0
		for _, x := range p {
			if _, up := tableCard(x); up {
				want++
			}
		}
		if got := impl.CountUp(p); got != want {
			t.Errorf("CountUp(%v) = %d, want %d", p, got, want)
		}
	}
}

func TestP9PositionOf(t *testing.T) {
	for _, c := range []struct {
		p          []int
		card, want int
	}{
		{nil, 0, -1}, {nil, -1, -1}, {[]int{0}, 0, 0}, {[]int{-1}, 0, 0}, {[]int{-1}, -1, -1}, {[]int{3, -2}, 1, 1}, {[]int{3, -2}, 2, -1}, {[]int{3, -2}, -2, -1},
		{[]int{5, -12}, 11, 1}, {downElements, 11, 11}, {upElements, 11, 11}, {upElements, 12, -1},
		// The first one of several, whatever its side, also in a list that is no packet.
		{[]int{4, -5, 4}, 4, 0}, {[]int{0, -5, 4}, 4, 1}, {append(repeated(0, 4000), -7, 6), 6, 4000},
		// A number of no card is not found, even where it is an element.
		{[]int{40}, -1, -1}, {[]int{40}, 40, -1}, {[]int{12}, 12, -1}, {[]int{-13}, 12, -1}, {[]int{-13}, -13, -1}, {[]int{40, 2}, 2, 1},
		{[]int{math.MinInt64}, math.MaxInt64, -1}, {[]int{math.MaxInt64}, math.MinInt64, -1}, {[]int{math.MinInt64}, math.MinInt64, -1},
	} {
		if got := impl.PositionOf(c.p, c.card); got != c.want {
			t.Errorf("PositionOf(%v, %d) = %d, want %d", c.p, c.card, got, c.want)
		}
	}
	for _, p := range listsOver(fewElements, 3) {
		for card := -15; card <= 15; card++ {
			want := slices.IndexFunc(p, func(x int) bool {
				held, _ := tableCard(x)
				return held == card && card != -1
			})
			if got := impl.PositionOf(p, card); got != want {
				t.Errorf("PositionOf(%v, %d) = %d, want %d", p, card, got, want)
			}
		}
	}
}

func TestP9NewPacket(t *testing.T) {
	for n := range 13 {
		if got := impl.NewPacket(n); !slices.Equal(got, downElements[:n]) || !impl.PacketOk(got) {
			t.Errorf("NewPacket(%d) = %v", n, got)
		}
	}
	for _, n := range []int{-1, -2, -12, -13, math.MinInt64, 13, 14, 100, 1 << 40, math.MaxInt64} {
		if got := impl.NewPacket(n); len(got) != 0 {
			t.Errorf("NewPacket(%d) = %v", n, got)
		}
	}
}

func TestP9IsArrangement(t *testing.T) {
	for _, c := range []struct {
		p, q []int
		want bool
	}{
		{nil, nil, true}, {nil, []int{}, true}, {nil, []int{0}, false}, {[]int{0}, nil, false}, {[]int{0}, []int{0}, true}, {[]int{0}, []int{-1}, true},
		{[]int{0}, []int{1}, false}, {[]int{0, -2}, []int{1, 0}, true}, {[]int{0, -2}, []int{2, 0}, false}, {[]int{0, 1}, []int{0}, false}, {[]int{0}, []int{0, 1}, false},
		{[]int{3, 1, 2}, []int{-3, -4, -2}, true}, {downElements, upElements, true}, {downElements, upElements[1:], false}, {downElements[1:], upElements[:11], false},
		// Lists that are no packets are no arrangements, not even of themselves.
		{[]int{0, 0}, []int{0, 0}, false}, {[]int{0, -1}, []int{0, 1}, false}, {[]int{0, 1}, []int{0, -1}, false}, {[]int{12}, []int{12}, false}, {[]int{-13}, []int{-13}, false},
		{[]int{12}, nil, false}, {nil, []int{40}, false}, {[]int{0, 40}, []int{0, 1}, false}, {[]int{0}, []int{0, 40}, false}, {[]int{0}, []int{0, -1}, false},
		{repeated(0, 13), repeated(0, 13), false}, {append(slices.Clone(downElements), 0), downElements, false}, {downElements, append(slices.Clone(downElements), 12), false},
	} {
		if got := impl.IsArrangement(c.p, c.q); got != c.want {
			t.Errorf("IsArrangement(%v, %v) = %t", c.p, c.q, got)
		}
	}
}

func TestP9IsArrangementComparesTheCards(t *testing.T) {
	// Sorted lists of cards are equal if and only if the packets have the same cards.
	cardsOf := func(p []int) []int {
		var cards []int
		for _, x := range p {
			card, _ := tableCard(x)
			cards = append(cards, card)
		}
		slices.Sort(cards)
		return cards
	}
	lists := listsOver([]int{0, 1, -1, -2, 11, -12, 12}, 3)
	for _, p := range lists {
		for _, q := range lists {
			want := tableOk(p) && tableOk(q) && slices.Equal(cardsOf(p), cardsOf(q))
			if got := impl.IsArrangement(p, q); got != want {
				t.Errorf("IsArrangement(%v, %v) = %t", p, q, got)
			}
		}
	}
	for up := range 1 << 12 {
		p := turned(downElements, up)
		q := slices.Clone(p)
		slices.Reverse(q)
		if !impl.IsArrangement(p, q) || !impl.IsArrangement(q, downElements) {
			t.Errorf("%v is no arrangement of the cards in reverse", p)
		}
	}
}

func TestP9SamePacket(t *testing.T) {
	lists := append(listsOver([]int{0, -1, 1, -2, 40}, 3), []int{}, downElements, upElements, noCardElements)
	for i, p := range lists {
		for j, q := range lists {
			want := i == j || len(p) == 0 && len(q) == 0
			if got := impl.SamePacket(p, slices.Clone(q)); got != want {
				t.Errorf("SamePacket(%v, %v) = %t", p, q, got)
			}
		}
	}
}

// The conventions of chapter 1: arguments and what lies behind them stay, results share no memory, and equal calls give equal results.

func TestP9PacketsAreNotChanged(t *testing.T) {
	behind := []int{0, -2, 40, 5, -2, 7}
	before := slices.Clone(behind)
	p := behind[:4]
	for range 2 {
		if impl.PacketOk(p) || !impl.PacketOk(p[:2]) || impl.CountUp(p) != 1 || impl.PositionOf(p, 5) != 3 || impl.IsArrangement(p, p) || !impl.IsArrangement(p[:2], p[:2]) || !impl.SamePacket(p, p) {
			t.Errorf("wrong results for %v", p)
		}
	}
	if !slices.Equal(behind, before) {
		t.Errorf("%v has become %v", before, behind)
	}
}

func TestP9NewPacketIsNew(t *testing.T) {
	first, second := impl.NewPacket(4), impl.NewPacket(4)
	for i := range first {
		first[i] = 99
	}
	_ = append(first[:1], 98, 98, 98, 98)
	if want := []int{0, 1, 2, 3}; !slices.Equal(second, want) || !slices.Equal(impl.NewPacket(4), want) {
		t.Errorf("a change of a packet changes others: %v, %v", second, impl.NewPacket(4))
	}
}
