package tests

import (
	"fmt"
	"math/bits"
	"runtime"
	"slices"
	"sync"
	"testing"
	"time"

	"loop.example/g00846/impl"
)

// cardSets returns all sets of n cards, each in ascending order.
func cardSets(n int) [][]int {
	var sets [][]int
	for members := range 1 << 12 {
		if bits.OnesCount(uint(members)) == n {
			sets = append(sets, slices.DeleteFunc(order(12), func(card int) bool { return members>>card&1 == 0 }))
		}
	}
	return sets
}

// sidedPackets returns all packets with the given cards, in every order and with all sides.
func sidedPackets(cards []int) [][]int {
	var packets [][]int
	for _, a := range permsOf(len(cards)) {
		for up := range 1 << len(cards) {
			packets = append(packets, turned(performed(cards, a), up))
		}
	}
	return packets
}

// pairedPackets returns all packets of 2 cards, and all of 4 cards that have the cards 0 to 3.
func pairedPackets() [][]int {
	packets := sidedPackets(order(4))
	for _, cards := range cardSets(2) {
		packets = append(packets, sidedPackets(cards)...)
	}
	return packets
}

// eachOf calls check for each of the packets, for several of them at the same time.
func eachOf(packets [][]int, check func(p []int)) {
	const workers = 8
	var group sync.WaitGroup
	for worker := range workers {
		group.Go(func() {
			for i := worker; i < len(packets); i += workers {
				check(packets[i])
			}
		})
	}
	group.Wait()
}

// balance returns the number of elements with sign 1, or -1 if the list has no balance.
func balance(p []int) int {
	if !tableOk(p) || len(p)%2 == 1 {
		return -1
	}
	count := 0
	for i, x := range p {
		_, up := tableCard(x)
		if i%2 == 0 && up || i%2 == 1 && !up {
			count++
		}
	}
	return count
}

// balanced reports whether q has the balance of p or the number of cards minus it.
func balanced(p []int, q []int) bool {
	return len(q) == len(p) && (balance(q) == balance(p) || balance(q) == len(p)-balance(p))
}

// hummers returns the packets with the cards of p in which the signs of all cards are as in p, or of none: turning the top
// two cards over together keeps the sign of each card, and a cut by an odd number changes all of them.
func hummers(p []int) [][]int {
	var packets [][]int
	for _, a := range permsOf(len(p)) {
		for changed := range 2 {
			q := performed(p, a)
			for i := range q {
				if (i+a[i]+changed)%2 == 1 {
					q[i] = -1 - q[i]
				}
			}
			packets = append(packets, q)
		}
	}
	return inOrder(packets)
}

// explored returns the packets that are reached by one choice after the other until no new one is found.
func explored(p []int) [][]int {
	found := [][]int{p}
	for i := 0; i < len(found); i++ {
		for _, q := range slices.Concat(chosen(found[i], 1), chosen(found[i], 3)) {
			if !slices.ContainsFunc(found, func(r []int) bool { return slices.Equal(r, q) }) {
				found = append(found, q)
			}
		}
	}
	return inOrder(found)
}

// reachedFrom returns what ReachedFrom returns for a packet of 2 or 4 cards.
func reachedFrom(t *testing.T, p []int) [][]int {
	t.Helper()
	reached, ok := impl.ReachedFrom(p)
	if !ok {
		t.Errorf("ReachedFrom(%v) fails", p)
	}
	return reached
}

func TestP5ReachedPacketsHaveTheBalanceAndAreInOrder(t *testing.T) {
	for _, p := range pairedPackets() {
		before, ok := impl.BalanceOf(p)
		reached := reachedFrom(t, p)
		for i, q := range reached {
			after, fine := impl.BalanceOf(q)
			if !ok || !fine || after != before && after != len(p)-before || !balanced(p, q) || !impl.IsArrangement(p, q) {
				t.Fatalf("%v with the balance %d reaches %v with the balance %d", p, before, q, after)
			}
			if i > 0 && !firstInOrder(reached[i-1], q) {
				t.Fatalf("%v comes before %v of those that %v reaches", reached[i-1], q, p)
			}
		}
	}
}

func TestP5ReachedPacketsAreThoseWithAllSignsOrNone(t *testing.T) {
	packets := pairedPackets()
	// There are too many packets of 4 cards for all of them, but each set of cards takes part.
	for i, cards := range cardSets(4) {
		sided := sidedPackets(cards)
		for at := i % 41; at < len(sided); at += 41 {
			packets = append(packets, sided[at])
		}
	}
	eachOf(packets, func(p []int) {
		got, ok := impl.ReachedFrom(p)
		wantResults(t, fmt.Sprintf("the packets that %v reaches", p), got, ok, hummers(p), true)
	})
}

func TestP5ReachedPacketsReachTheSamePackets(t *testing.T) {
	lists := map[string][][]int{}
	for _, p := range pairedPackets() {
		lists[fmt.Sprint(p)] = reachedFrom(t, p)
	}
	for p, reached := range lists {
		itself := false
		for _, q := range reached {
			itself = itself || fmt.Sprint(q) == p
			if again := lists[fmt.Sprint(q)]; !sameLists(again, reached) {
				t.Fatalf("%s reaches %v, but of them %v reaches %v", p, reached, q, again)
			}
		}
		if !itself {
			t.Errorf("%s does not reach itself, but %v", p, reached)
		}
	}
}

func TestP5IsHummerAgreesWithReachedFrom(t *testing.T) {
	eachOf(pairedPackets(), func(p []int) {
		reached := reachedFrom(t, p)
		for _, q := range reached {
			if !impl.IsHummer(p, q) {
				t.Errorf("IsHummer(%v, %v) is false, but %v are reached", p, q, reached)
			}
		}
		for up := range 1 << len(p) {
			q := turned(reached[up%len(reached)], up)
			want := slices.ContainsFunc(reached, func(r []int) bool { return slices.Equal(r, q) })
			if got := impl.IsHummer(p, q); got != want {
				t.Errorf("IsHummer(%v, %v) = %t, but %v are reached", p, q, got, reached)
			}
		}
	})
}

func TestP5UpCountAfterIsTheBalance(t *testing.T) {
	lists := slices.Concat(pairedPackets(), listsOver(fewElements, 4), noPackets)
	for n := range 13 {
		lists = append(lists, movePackets(n)...)
	}
	for up := range 1 << 12 {
		lists = append(lists, turned(downElements, up))
	}
	for _, p := range lists {
		b, ok := impl.BalanceOf(p)
		up, fine := impl.UpCountAfter(p)
		if b != up || ok != fine {
			t.Errorf("for %v the balance is %d, %t, but the count %d, %t", p, b, ok, up, fine)
		}
	}
}

func TestP5FlippingTwoAndCuttingKeepTheBalance(t *testing.T) {
	packets := pairedPackets()
	for n := 2; n <= 12; n += 2 {
		packets = append(packets, movePackets(n)...)
	}
	flip := impl.Move{Kind: impl.MvFlip, K: 2}
	for _, p := range packets {
		if !impl.KeepsBalance(p, flip) {
			t.Errorf("turning the top two of %v over does not keep the balance", p)
		}
		for k := 0; k <= len(p); k++ {
			if !impl.KeepsBalance(p, impl.Move{Kind: impl.MvCut, K: k}) {
				t.Errorf("cutting %v at %d does not keep the balance", p, k)
			}
		}
	}
}

func TestP5ManyFlipsAndCutsKeepTheBalance(t *testing.T) {
	for n := 2; n <= 12; n += 2 {
		for _, p := range movePackets(n) {
			q := p
			for i := range 60 {
				list := []impl.Move{{Kind: impl.MvCut, K: (5*i + 1) % (n + 1)}, {Kind: impl.MvFlip, K: 2}, {Kind: impl.MvCut, K: i % 3}}
				var ok bool
				if q, ok = impl.PerformAll(q, list); !ok {
					t.Fatalf("PerformAll fails for %v", list)
				}
				before, _ := impl.BalanceOf(p)
				if after, ok := impl.BalanceOf(q); !ok || after != before && after != n-before {
					t.Errorf("%v with the balance %d has become %v with the balance %d", p, before, q, after)
				}
			}
		}
	}
}

func TestP5ChoicesKeepTheBalance(t *testing.T) {
	for n := 2; n <= 12; n += 2 {
		for _, p := range movePackets(n) {
			once, ok := impl.ResultsOf(p, impl.ChPair)
			twice, fine := impl.ResultsAfter(once, impl.ChCut)
			last, well := impl.ResultsAfter(twice, impl.ChPair)
			if !ok || !fine || !well {
				t.Fatalf("there are no results for %v", p)
			}
			before, _ := impl.BalanceOf(p)
			for _, q := range slices.Concat(once, twice, last) {
				if after, ok := impl.BalanceOf(q); !ok || after != before && after != n-before {
					t.Errorf("%v with the balance %d becomes %v with the balance %d", p, before, q, after)
				}
			}
		}
	}
}

func TestP9BalanceOfAndUpCountAfter(t *testing.T) {
	for _, c := range []struct {
		p    []int
		want int
		ok   bool
	}{
		{nil, 0, true}, {[]int{}, 0, true}, {[]int{0, 1}, 1, true}, {[]int{-1, -2}, 1, true}, {[]int{-1, 1}, 2, true}, {[]int{0, -2}, 0, true}, {[]int{-1, 1, 2, -4}, 2, true}, {[]int{0, 1, 2, -4}, 1, true},
		{[]int{-1, 1, 2, 3}, 3, true}, {[]int{11, -11}, 0, true}, {[]int{-12, 10}, 2, true}, {[]int{-6, 2, -8, 0, -12, -2}, 5, true}, {downElements, 6, true}, {upElements, 6, true},
		{turned(downElements, 0x555), 12, true}, {turned(downElements, 0xaaa), 0, true}, {turned(upElements, 0x800), 7, true}, {turned(upElements, 0x400), 5, true},
		{[]int{7}, 0, false}, {[]int{-8}, 0, false}, {[]int{-1, 1, -3}, 0, false}, {upElements[:11], 0, false}, {[]int{3, 3}, 0, false}, {[]int{-4, 3}, 0, false}, {[]int{12, 0}, 0, false},
		{[]int{-13, 1}, 0, false}, {[]int{-1, 1, -3, 1}, 0, false}, {[]int{-1, 12}, 0, false}, {order(13), 0, false}, {order(14), 0, false}, {append(slices.Clone(upElements), 0, 1), 0, false}, {repeated(-1, 5000), 0, false},
	} {
		if got, ok := impl.BalanceOf(c.p); got != c.want || ok != c.ok {
			t.Errorf("BalanceOf(%v) = %d, %t", c.p, got, ok)
		}
		if got, ok := impl.UpCountAfter(c.p); got != c.want || ok != c.ok {
			t.Errorf("UpCountAfter(%v) = %d, %t", c.p, got, ok)
		}
	}
}

// spoiltPackets returns packets in each of which one element stands for no card, or for a card that comes twice.
func spoiltPackets() [][]int {
	var lists [][]int
	for n := 1; n <= 12; n++ {
		for i := range n {
			for _, x := range append([]int{(i + 1) % n, -1 - (i+1)%n}, noCardElements...) {
				if n > 1 || impl.CardOf(x) < 0 {
					bad := slices.Clone(upElements[:n])
					bad[i] = x
					lists = append(lists, bad)
				}
			}
		}
	}
	return lists
}

func TestP9BalanceAndUpCountOfManyLists(t *testing.T) {
	lists := slices.Concat(pairedPackets(), listsOver(fewElements, 4), noPackets, spoiltPackets())
	for n := range 13 {
		lists = append(lists, movePackets(n)...)
		for up := range 1 << n {
			lists = append(lists, turned(movePackets(n)[4], up))
		}
	}
	for _, p := range lists {
		want := balance(p)
		ok := want >= 0
		if got, fine := impl.BalanceOf(p); got != max(want, 0) || fine != ok {
			t.Errorf("BalanceOf(%v) = %d, %t; want %d", p, got, fine, want)
		}
		if ok {
			want = impl.CountUp(turned(p, 0xaaa))
		}
		if got, fine := impl.UpCountAfter(p); got != max(want, 0) || fine != ok {
			t.Errorf("UpCountAfter(%v) = %d, %t; want %d", p, got, fine, want)
		}
	}
}

func TestP9KeepsBalance(t *testing.T) {
	for _, c := range []struct {
		p    []int
		m    impl.Move
		want bool
	}{
		{[]int{0, -2, 2, 3}, impl.Move{Kind: impl.MvFlip, K: 2}, true}, {[]int{0, -2, 2, 3}, impl.Move{Kind: impl.MvCut, K: 1}, true}, {[]int{0, -2, 2, 3}, impl.Move{Kind: impl.MvTurn, K: 0}, false},
		// The balance 1 becomes 3, 3 and 4, and the balance 2 becomes 4.
		{[]int{0, -2, 2, 3}, impl.Move{Kind: impl.MvCut, K: 3}, true}, {[]int{0, -2, 2, 3}, impl.Move{Kind: impl.MvDeal, K: 2}, true}, {[]int{0, -2, 2, 3}, impl.Move{Kind: impl.MvFlip, K: 3}, false}, {[]int{0, -2, -3, 3}, impl.Move{Kind: impl.MvDeal, K: 2}, false},
		{[]int{0, 1}, impl.Move{Kind: impl.MvTurn, K: 0}, false}, {[]int{0, -2}, impl.Move{Kind: impl.MvTurn, K: 1}, false}, {[]int{-1, 1}, impl.Move{Kind: impl.MvCut, K: 1}, true}, {[]int{0, -2}, impl.Move{Kind: impl.MvCut, K: 1}, true},
		{[]int{0, 1}, impl.Move{Kind: impl.MvCut, K: 3}, false}, {[]int{0, 1}, impl.Move{Kind: impl.MvCut, K: -1}, false}, {[]int{0, 1}, impl.Move{}, false}, {[]int{0, 1}, impl.Move{Kind: 10}, false}, {[]int{0, 1}, impl.Move{Kind: impl.MvTurn, K: 2}, false},
		{nil, impl.Move{Kind: impl.MvCut}, false}, {[]int{}, impl.Move{Kind: impl.MvFaro}, false}, {nil, impl.Move{}, false}, {[]int{0, 1, 2}, impl.Move{Kind: impl.MvCut}, false}, {[]int{7}, impl.Move{Kind: impl.MvMilk}, false},
		{[]int{3, 3}, impl.Move{Kind: impl.MvCut}, false}, {[]int{0, 12}, impl.Move{Kind: impl.MvCut}, false}, {order(14), impl.Move{Kind: impl.MvCut}, false}, {downElements, impl.Move{Kind: impl.MvFlip, K: 12}, true}, {downElements, impl.Move{Kind: impl.MvFlip, K: 13}, false},
	} {
		if got := impl.KeepsBalance(c.p, c.m); got != c.want {
			t.Errorf("KeepsBalance(%v, %v) = %t", c.p, c.m, got)
		}
	}
}

func TestP9KeepsBalanceOfAllMoves(t *testing.T) {
	packets := slices.Concat(sidedPackets(order(4)), sidedPackets([]int{2, 9}), noPackets)
	for n := range 13 {
		packets = append(packets, movePackets(n)...)
		for up := 1; up < 1<<n; up += 37 {
			packets = append(packets, turned(movePackets(n)[4], up))
		}
	}
	for _, p := range packets {
		for kind := -1; kind <= 11; kind++ {
			for k := -2; k <= 14; k++ {
				m := impl.Move{Kind: kind, K: k}
				want := balance(p) >= 0 && len(p) > 0 && k >= 0 && k <= mostOf(kind, len(p)) && balanced(p, moved(p, m))
				if got := impl.KeepsBalance(p, m); got != want {
					t.Errorf("KeepsBalance(%v, %v) = %t", p, m, got)
				}
			}
		}
		for _, far := range farNumbers {
			if impl.KeepsBalance(p, impl.Move{Kind: far, K: 0}) || impl.KeepsBalance(p, impl.Move{Kind: impl.MvCut, K: far}) {
				t.Errorf("KeepsBalance(%v) is true for %d", p, far)
			}
		}
	}
}

func TestP9ReachedFrom(t *testing.T) {
	for _, c := range []struct {
		p    []int
		want [][]int
	}{
		{[]int{0, 1}, [][]int{{-2, -1}, {-1, -2}, {0, 1}, {1, 0}}}, {[]int{-2, -1}, [][]int{{-2, -1}, {-1, -2}, {0, 1}, {1, 0}}}, {[]int{0, -2}, [][]int{{-2, 0}, {-1, 1}, {0, -2}, {1, -1}}},
		{[]int{-12, 5}, [][]int{{-12, 5}, {-6, 11}, {5, -12}, {11, -6}}}, {[]int{11, 10}, [][]int{{-12, -11}, {-11, -12}, {10, 11}, {11, 10}}},
	} {
		got, ok := impl.ReachedFrom(c.p)
		wantResults(t, fmt.Sprintf("the packets that %v reaches", c.p), got, ok, c.want, true)
	}
	for _, p := range [][]int{{0, 1, 2, 3}, {-1, 1, 2, 3}, {0, -2, 2, 3}, {0, 1, -3, 3}, {0, 1, 2, -4}, {-1, 1, -3, 3}, {-4, 2, 1, -1}, {-12, 7, 0, 4}} {
		got, ok := impl.ReachedFrom(p)
		wantResults(t, fmt.Sprintf("the packets that %v reaches", p), got, ok, explored(p), true)
		if len(got) != 48 {
			t.Errorf("%v reaches %d packets", p, len(got))
		}
	}
	for _, p := range slices.Concat(sidedPackets([]int{0, 1}), sidedPackets([]int{3, 8}), sidedPackets([]int{10, 11})) {
		got, ok := impl.ReachedFrom(p)
		wantResults(t, fmt.Sprintf("the packets that %v reaches", p), got, ok, explored(p), true)
	}
}

func TestP9NothingIsReached(t *testing.T) {
	lists := slices.Concat(noPackets, spoiltPackets())
	for n := range 13 {
		if n != 2 && n != 4 {
			lists = append(lists, movePackets(n)...)
		}
	}
	for _, p := range lists {
		got, ok := impl.ReachedFrom(p)
		wantResults(t, fmt.Sprintf("the packets that %v reaches", p), got, ok, nil, false)
		if impl.IsHummer(p, p) || impl.IsHummer(p, nil) || impl.IsHummer(p, []int{0, 1}) || impl.IsHummer([]int{0, 1}, p) || impl.IsHummer([]int{0, 1, 2, 3}, p) {
			t.Errorf("%v is reached or reaches a packet", p)
		}
	}
}

func TestP9ReachedFromOfFewElements(t *testing.T) {
	lists := listsOver(fewElements, 3)
	for _, p := range listsOver([]int{0, 11, -1, -2, -12, 12}, 4) {
		if len(p) == 4 {
			lists = append(lists, p)
		}
	}
	for _, p := range lists {
		var want [][]int
		if tableOk(p) && (len(p) == 2 || len(p) == 4) {
			want = hummers(p)
		}
		got, ok := impl.ReachedFrom(p)
		wantResults(t, fmt.Sprintf("the packets that %v reaches", p), got, ok, want, want != nil)
	}
}

func TestP9IsHummer(t *testing.T) {
	for _, c := range []struct {
		p, q []int
		want bool
	}{
		{[]int{0, 1}, []int{-1, -2}, true}, {[]int{0, 1}, []int{0, 1}, true}, {[]int{0, 1}, []int{1, 0}, true}, {[]int{0, 1}, []int{0, -2}, false}, {[]int{0, 1}, []int{-1, 1}, false}, {[]int{0, -2}, []int{-1, 1}, true},
		{[]int{0, 1}, nil, false}, {[]int{0, 1}, []int{0}, false}, {[]int{0, 1}, []int{0, 2}, false}, {[]int{0, 1}, []int{0, 1, 2}, false}, {[]int{0, 1}, []int{0, 12}, false}, {[]int{0, 1}, []int{0, 1, 2, 3}, false}, {[]int{0, 1, 2, 3}, []int{0, 1}, false},
		{[]int{0, 1, 2, 3}, []int{2, -2, -1, 3}, false}, {[]int{0, 1, 2, 3}, []int{2, 1, 0, 3}, true}, {[]int{0, 1, 2, 3}, []int{1, 0, 2, 3}, false}, {[]int{0, 1, 2, 3}, []int{-2, -1, 2, 3}, true}, {[]int{0, 1, 2, 3}, []int{-2, -1, -3, -4}, false},
		{[]int{0, 1, 2, 3}, []int{-4, -3, -2, -1}, true}, {[]int{0, 1, 2, 3}, []int{4, 5, 6, 7}, false}, {[]int{0, 1, 2, 3}, []int{0, 1, 2, 40}, false}, {[]int{0, 1, 2, 3}, []int{0, 1, 2, 2}, false},
		// ReachedFrom fails for these, although a choice brings the second packet about, or although the packets are equal.
		{nil, nil, false}, {[]int{}, []int{}, false}, {[]int{7}, []int{7}, false}, {[]int{0, 1, 2}, []int{1, 2, 0}, false}, {[]int{0, 1, 2, 3, 4, 5}, []int{1, 2, 3, 4, 5, 0}, false}, {order(6), order(6), false}, {downElements, downElements, false},
		{[]int{3, 3}, []int{3, 3}, false}, {[]int{0, 12}, []int{0, 12}, false}, {[]int{0, 1, 2, -1}, []int{0, 1, 2, -1}, false}, {[]int{-13, 0}, []int{0, -13}, false},
	} {
		if got := impl.IsHummer(c.p, c.q); got != c.want {
			t.Errorf("IsHummer(%v, %v) = %t", c.p, c.q, got)
		}
	}
	lists := append(listsOver([]int{0, 1, -1, -2, 12}, 4), noPackets...)
	for _, p := range [][]int{{0, 1}, {-2, 0}, {1, -1, 2, 3}} {
		reached := hummers(p)
		for _, q := range lists {
			want := slices.ContainsFunc(reached, func(r []int) bool { return slices.Equal(r, q) })
			if got := impl.IsHummer(p, q); got != want {
				t.Errorf("IsHummer(%v, %v) = %t", p, q, got)
			}
		}
	}
}

// wantSides checks SplitSides.
func wantSides(t *testing.T, p []int, wantUp []int, wantDown []int) {
	t.Helper()
	if up, down := impl.SplitSides(p); !slices.Equal(up, wantUp) || !slices.Equal(down, wantDown) {
		t.Errorf("SplitSides(%v) = %v, %v; want %v, %v", p, up, down, wantUp, wantDown)
	}
}

func TestP9SplitSides(t *testing.T) {
	for _, c := range []struct{ p, up, down []int }{
		{nil, nil, nil}, {[]int{}, nil, nil}, {[]int{-3, 1, 40, -1}, []int{2, 0}, []int{1}}, {[]int{0}, nil, []int{0}}, {[]int{-1}, []int{0}, nil}, {[]int{11}, nil, []int{11}}, {[]int{-12}, []int{11}, nil},
		{[]int{12}, nil, nil}, {[]int{-13}, nil, nil}, {downElements, nil, downElements}, {upElements, downElements, nil}, {[]int{4, -10, 7, -1, 0, 5}, []int{9, 0}, []int{4, 7, 0, 5}},
		// The list need not be a packet.
		{[]int{3, -4, 3, -4, -4}, []int{3, 3, 3}, []int{3, 3}}, {order(14), nil, order(12)}, {repeated(-6, 5000), repeated(5, 5000), nil}, {slices.Repeat([]int{-1, 12, 7, -13}, 900), repeated(0, 900), repeated(7, 900)},
	} {
		wantSides(t, c.p, c.up, c.down)
	}
	wantSides(t, noCardElements, nil, nil)
	wantSides(t, farNumbers, []int{0, 1, 2, 8, 11}, nil)
}

func TestP9SplitSidesOfManyLists(t *testing.T) {
	lists := slices.Concat(pairedPackets(), listsOver(fewElements, 4), noPackets, spoiltPackets())
	for n := range 13 {
		lists = append(lists, movePackets(n)...)
	}
	for _, p := range lists {
		var sides [2][]int
		for _, x := range p {
			switch card, up := tableCard(x); {
			case up:
				sides[0] = append(sides[0], card)
			case card >= 0:
				sides[1] = append(sides[1], card)
			}
		}
		wantSides(t, p, sides[0], sides[1])
	}
}

func TestP9TurnedPairsAreNew(t *testing.T) {
	for n := range 13 {
		for _, p := range append(movePackets(n), append(repeated(40, n), -3, 2)) {
			for range 2 {
				up, down := impl.SplitSides(p)
				spoil(t, "sides", [][]int{up, down})
			}
		}
	}
	for _, p := range [][]int{{0, 1}, {-12, 3}, {0, 1, 2, 3}, {-12, 3, -1, 8}} {
		want := hummers(p)
		for range 3 {
			got, ok := impl.ReachedFrom(p)
			wantResults(t, fmt.Sprintf("the packets that %v reaches", p), got, ok, want, true)
			spoil(t, "reached packets", got)
		}
	}
}

func TestP9TurnedPairsDoNotChangeTheirArguments(t *testing.T) {
	for n := range 13 {
		for _, from := range movePackets(n) {
			p := append(slices.Clone(from), 97, 98, 99)
			before := slices.Clone(p)
			q := slices.Clone(p)
			impl.BalanceOf(p[:n])
			impl.UpCountAfter(p[:n])
			impl.SplitSides(p[:n])
			impl.ReachedFrom(p[:n])
			impl.IsHummer(p[:n], q[:n])
			for _, m := range append(movesOf(n), impl.Move{}) {
				impl.KeepsBalance(p[:n], m)
			}
			if !slices.Equal(p, before) || !slices.Equal(q, before) {
				t.Fatalf("%v has become %v and %v", before, p, q)
			}
		}
	}
}

func TestP9TurnedPairsAtTheSameTime(t *testing.T) {
	packets := [][]int{{0, 1}, {0, -2}, {0, 1, 2, 3}, {-1, 1, 2, 3}, {0, -2, 2, 3}, {0, 1, -3, 3}, {-12, 3, -1, 8}}
	var wants [][][]int
	for _, p := range packets {
		wants = append(wants, hummers(p))
	}
	var group sync.WaitGroup
	for worker := range 8 {
		group.Go(func() {
			for i := range 140 {
				at := (worker + i) % len(packets)
				p, want := packets[at], wants[at]
				got, ok := impl.ReachedFrom(p)
				wantResults(t, fmt.Sprintf("the packets that %v reaches", p), got, ok, want, true)
				if !impl.IsHummer(p, want[i%len(want)]) || impl.IsHummer(p, wants[(at+1)%len(wants)][0]) {
					t.Errorf("IsHummer does not agree for %v", p)
				}
			}
		})
	}
	group.Wait()
}

func TestP9ReachedFromLeavesNothingRunning(t *testing.T) {
	before := runtime.NumGoroutine()
	for range 300 {
		impl.ReachedFrom([]int{0, 1})
		impl.IsHummer([]int{5, -8}, []int{0, 1})
		impl.ReachedFrom([]int{0, 1, 2})
	}
	// A worker that is joined may still be about to end.
	for range 2000 {
		if runtime.NumGoroutine() <= before {
			return
		}
		time.Sleep(time.Millisecond)
	}
	t.Errorf("%d goroutines have become %d", before, runtime.NumGoroutine())
}
