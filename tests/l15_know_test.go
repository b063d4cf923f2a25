package tests

import (
	"fmt"
	"math"
	"runtime"
	"slices"
	"sync"
	"testing"
	"time"

	"loop.example/g00846/impl"
)

// someOf returns every step-th of the lists, beginning with the one at from.
func someOf(lists [][]int, from int, step int) [][]int {
	var some [][]int
	for i := from; i < len(lists); i += step {
		some = append(some, lists[i])
	}
	return some
}

// mixedParts returns parts of a list in which packets are missing without a simple rule, but the same ones at each call.
func mixedParts(lists [][]int, count int) [][][]int {
	var parts [][][]int
	state := uint32(1)
	for i := range count {
		var part [][]int
		for _, p := range lists {
			state = state*1664525 + 1013904223
			if int(state>>24)%(2+i%5) == 0 {
				part = append(part, p)
			}
		}
		if len(part) > 0 {
			parts = append(parts, part)
		}
	}
	return parts
}

// subsetsOf returns all parts of a list but the empty one.
func subsetsOf(lists [][]int) [][][]int {
	var subsets [][][]int
	for members := 1; members < 1<<len(lists); members++ {
		var subset [][]int
		for i, p := range lists {
			if members>>i&1 == 1 {
				subset = append(subset, p)
			}
		}
		subsets = append(subsets, subset)
	}
	return subsets
}

// possibleLists are valid lists: of single packets, of the results of choices, of all orders or sides of some cards, and parts of them.
func possibleLists() [][][]int {
	var lists [][][]int
	for n := 1; n <= 12; n++ {
		for _, p := range movePackets(n) {
			lists = append(lists, [][]int{p})
		}
		for kind := 1; kind <= 4; kind++ {
			// More than six cards have too many riffles for tests of all of them.
			if n > 6 && kind == impl.ChRiffle || n == 1 && kind == impl.ChPair {
				continue
			}
			lists = append(lists, chosen(movePackets(n)[4], kind))
		}
	}
	sided := inOrder(sidedPackets([]int{0, 5, 11}))
	lists = append(lists, sided, inOrder(sidedPackets([]int{7})), inOrder(sidedPackets([]int{2, 11})), hummers([]int{0, -2, 2, 3}), permsOf(3), permsOf(4), permsOf(5))
	for _, all := range [][][]int{sided, permsOf(4), permsOf(5), manyPackets(300)} {
		lists = append(lists, someOf(all, 1, 2), someOf(all, 2, 7))
		lists = append(lists, mixedParts(all, 8)...)
	}
	return lists
}

// fewPossibleLists are very short lists, in which all that can be is.
func fewPossibleLists() [][][]int {
	return slices.Concat(subsetsOf(inOrder(sidedPackets([]int{0, 1}))), subsetsOf(permsOf(3)), subsetsOf(inOrder(sidedPackets([]int{9}))))
}

// cardAt returns the card at an index, or -1 if the index does not exist.
func cardAt(p []int, at int) int {
	if at < 0 || at >= len(p) {
		return -1
	}
	card, _ := tableCard(p[at])
	return card
}

// hasCards reports whether p is a packet that has as many cards as q, and each of them.
func hasCards(p []int, q []int) bool {
	for at := range q {
		if !slices.ContainsFunc(p, func(x int) bool { card, _ := tableCard(x); return card == cardAt(q, at) }) {
			return false
		}
	}
	return tableOk(p) && tableOk(q) && len(p) == len(q)
}

// knowOk decides whether a list is valid.
func knowOk(list [][]int) bool {
	for i, p := range list {
		if len(p) == 0 || !hasCards(p, list[0]) || i > 0 && !firstInOrder(list[i-1], p) {
			return false
		}
	}
	return len(list) >= 1 && len(list) <= 3000
}

// packetsWith returns the packets that have the card at the index.
func packetsWith(list [][]int, at int, card int) [][]int {
	var left [][]int
	for _, p := range list {
		if card >= 0 && cardAt(p, at) == card {
			left = append(left, p)
		}
	}
	return left
}

// packetsUp returns the packets in which the elements lie face up where a bit of up is 1, and no others do.
func packetsUp(list [][]int, up int) [][]int {
	var left [][]int
	for _, p := range list {
		sides := 0
		for at, x := range p {
			if _, isUp := tableCard(x); isUp {
				sides |= 1 << at
			}
		}
		if sides == up&(1<<len(p)-1) {
			left = append(left, p)
		}
	}
	return left
}

// indicesOf returns the indices of the bits of up that are 1, in ascending order.
func indicesOf(up int) []int {
	return slices.DeleteFunc(order(12), func(at int) bool { return up>>at&1 == 0 })
}

// knownAt returns the card that all packets of a valid list have at an index, or -1.
func knownAt(list [][]int, at int) int {
	if card := cardAt(list[0], at); len(packetsWith(list, at, card)) == len(list) {
		return card
	}
	return -1
}

// knownIndexOf returns the index at which all packets of a valid list have the card, or -1.
func knownIndexOf(list [][]int, card int) int {
	for at := range list[0] {
		if card >= 0 && knownAt(list, at) == card {
			return at
		}
	}
	return -1
}

// worstLook returns how many packets of a valid list are left in the worst case by a look at the card at an index.
func worstLook(list [][]int, at int) int {
	worst := 0
	for card := range 12 {
		worst = max(worst, len(packetsWith(list, at, card)))
	}
	return worst
}

// bestLook returns the first index of a valid list at which a look leaves as few packets as possible in the worst case.
func bestLook(list [][]int) int {
	var worst []int
	for at := range list[0] {
		worst = append(worst, worstLook(list, at))
	}
	return slices.Index(worst, slices.Min(worst))
}

// wantKnown checks the four functions that only say something about a list, for all indices and cards, and some that are none.
func wantKnown(t *testing.T, list [][]int) {
	t.Helper()
	if !knowOk(list) || !impl.KnowOk(list) {
		t.Fatalf("KnowOk is false for %v", list)
	}
	count := 0
	for i := -2; i <= 14; i++ {
		at := knownAt(list, i)
		if at >= 0 {
			count++
		}
		if got := impl.KnownAt(list, i); got != at {
			t.Errorf("KnownAt(%v, %d) = %d, want %d", list, i, got, at)
		}
		if got, want := impl.KnownIndexOf(list, i), knownIndexOf(list, i); got != want {
			t.Errorf("KnownIndexOf(%v, %d) = %d, want %d", list, i, got, want)
		}
	}
	if got := impl.CountKnown(list); got != count {
		t.Errorf("CountKnown(%v) = %d, want %d", list, got, count)
	}
	if got, want := impl.BestLook(list), bestLook(list); got != want {
		t.Errorf("BestLook(%v) = %d, want %d", list, got, want)
	}
}

// wantSeen checks what is left of a valid list after something was seen.
func wantSeen(t *testing.T, of string, got [][]int, want [][]int) {
	t.Helper()
	if !sameLists(got, want) {
		t.Errorf("%s leaves %v, want %v", of, got, want)
	}
}

// wantAfterMove checks AfterMove for a valid list; if the move is not valid, it fails.
func wantAfterMove(t *testing.T, list [][]int, m impl.Move) {
	t.Helper()
	var want [][]int
	fine := m.K >= 0 && m.K <= mostOf(m.Kind, len(list[0]))
	if fine {
		for _, p := range list {
			want = append(want, moved(p, m))
		}
	}
	got, ok := impl.AfterMove(list, m)
	wantResults(t, fmt.Sprintf("the packets of %v after %v", list, m), got, ok, inOrder(want), fine)
}

// wantNothing checks that each of the functions fails for a list.
func wantNothing(t *testing.T, list [][]int) {
	t.Helper()
	of := fmt.Sprintf("%d packets", len(list))
	if len(list) <= 30 {
		of = fmt.Sprint(list)
	}
	if impl.KnowOk(list) || impl.CountKnown(list) != -1 || impl.BestLook(list) != -1 {
		t.Errorf("for %s, KnowOk is %t, CountKnown %d and BestLook %d", of, impl.KnowOk(list), impl.CountKnown(list), impl.BestLook(list))
	}
	for i := -1; i <= 4; i++ {
		if at, card := impl.KnownAt(list, i), impl.KnownIndexOf(list, i); at != -1 || card != -1 {
			t.Errorf("for %s and %d, KnownAt is %d and KnownIndexOf %d", of, i, at, card)
		}
		for _, left := range [][][]int{impl.SeeCard(list, 0, i), impl.SeeCard(list, i, 0), impl.SeeSides(list, nil), impl.SeeSides(list, order(i+1))} {
			wantSeen(t, "something seen of "+of, left, nil)
		}
		got, ok := impl.AfterChoice(list, i)
		wantResults(t, "the packets of "+of+" after a choice", got, ok, nil, false)
	}
	for kind := range 11 {
		got, ok := impl.AfterMove(list, impl.Move{Kind: kind})
		wantResults(t, "the packets of "+of+" after a move", got, ok, nil, false)
	}
}

func TestP8LooksAtAnIndexDivideTheList(t *testing.T) {
	for _, list := range slices.Concat(possibleLists(), fewPossibleLists()) {
		for at := range list[0] {
			var all [][]int
			for card := range 12 {
				left := impl.SeeCard(list, at, card)
				all = append(all, left...)
				if len(left) > 0 && (!impl.KnowOk(left) || impl.KnownAt(left, at) != card || impl.KnownIndexOf(left, card) != at) {
					t.Errorf("the card %d, seen at %d, leaves %v of %v", card, at, left, list)
				}
			}
			if len(all) != len(list) || !sameLists(inOrder(all), list) {
				t.Errorf("the cards at %d leave %v, together not %v", at, all, list)
			}
		}
	}
}

func TestP8SidesDivideTheList(t *testing.T) {
	for i, list := range slices.Concat(possibleLists(), fewPossibleLists()) {
		// There are many ways in which twelve elements may lie.
		if n := len(list[0]); n > 7 && i%9 > 0 {
			continue
		}
		var all [][]int
		for up := range 1 << len(list[0]) {
			left := impl.SeeSides(list, indicesOf(up))
			all = append(all, left...)
			if len(left) > 0 && !impl.KnowOk(left) {
				t.Errorf("the sides %b leave %v of %v", up, left, list)
			}
			for _, p := range left {
				if len(packetsUp([][]int{p}, up)) == 0 {
					t.Errorf("%v is left by the sides %b", p, up)
				}
			}
		}
		if len(all) != len(list) || !sameLists(inOrder(all), list) {
			t.Errorf("the sides leave %v, together not %v", all, list)
		}
	}
}

func TestP8KnownCardsAndKnownIndicesAgree(t *testing.T) {
	for _, list := range slices.Concat(possibleLists(), fewPossibleLists()) {
		cards, indices := 0, 0
		for at := range list[0] {
			if card := impl.KnownAt(list, at); card >= 0 {
				cards++
				if got := impl.KnownIndexOf(list, card); got != at {
					t.Errorf("in %v the card %d is known at %d, but KnownIndexOf is %d", list, card, at, got)
				}
			}
		}
		for card := range 12 {
			if at := impl.KnownIndexOf(list, card); at >= 0 {
				indices++
				if got := impl.KnownAt(list, at); got != card {
					t.Errorf("in %v the index of %d is known to be %d, but KnownAt is %d", list, card, at, got)
				}
			}
		}
		if count := impl.CountKnown(list); count != cards || count != indices {
			t.Errorf("in %v, CountKnown is %d, but %d cards and %d indices are known", list, count, cards, indices)
		}
	}
}

func TestP8AMoveKeepsWhatIsKnown(t *testing.T) {
	for _, list := range slices.Concat(possibleLists(), fewPossibleLists()) {
		count := impl.CountKnown(list)
		var known []int
		for at := range list[0] {
			known = append(known, impl.KnownAt(list, at))
		}
		for _, m := range movesOf(len(list[0])) {
			after, ok := impl.AfterMove(list, m)
			if !ok || len(after) != len(list) || impl.CountKnown(after) != count {
				t.Fatalf("%v has become %v, %t by %v", list, after, ok, m)
			}
			for i := 1; i < len(after); i++ {
				if !firstInOrder(after[i-1], after[i]) {
					t.Fatalf("%v comes before %v after %v", after[i-1], after[i], m)
				}
			}
			for at, from := range moveOrder(len(list[0]), m) {
				if card := impl.KnownAt(after, at); card != known[from] {
					t.Errorf("in %v, %d is known at %d, but after %v, %d at %d", list, known[from], from, m, card, at)
				}
			}
		}
	}
}

func TestP8AChoiceLeavesAllItsResults(t *testing.T) {
	for _, list := range slices.Concat(possibleLists(), fewPossibleLists()) {
		for kind := range 5 {
			got, ok := impl.AfterChoice(list, kind)
			want, fine := impl.ResultsAfter(list, kind)
			of := fmt.Sprintf("the packets of %v after the choice %d", list, kind)
			wantResults(t, of, got, ok, want, fine)
			if ok && !impl.KnowOk(got) {
				t.Errorf("%s are %v", of, got)
			}
			// More than five cards have too many riffles for tests of all of them.
			if !ok || kind == impl.ChRiffle && len(list[0]) > 5 {
				continue
			}
			for _, p := range list {
				for _, q := range chosen(p, kind) {
					if _, found := slices.BinarySearchFunc(got, q, slices.Compare); !found {
						t.Errorf("%s lack %v", of, q)
					}
				}
			}
		}
	}
}

func TestP8NoLookIsBetterThanBestLook(t *testing.T) {
	for _, list := range slices.Concat(possibleLists(), fewPossibleLists()) {
		best := impl.BestLook(list)
		worst := make([]int, len(list[0]))
		for at := range worst {
			for card := range 12 {
				worst[at] = max(worst[at], len(impl.SeeCard(list, at, card)))
			}
		}
		if best < 0 || best >= len(worst) || worst[best] != slices.Min(worst) || slices.Index(worst, worst[best]) != best {
			t.Errorf("BestLook(%v) = %d, but in the worst case %v packets are left", list, best, worst)
		}
	}
}

// look returns what is left of a list after a look at a card and at all sides of the real packet.
func look(list [][]int, packet []int, at int) [][]int {
	card, _ := tableCard(packet[at])
	up := 0
	for i, x := range packet {
		if _, isUp := tableCard(x); isUp {
			up |= 1 << i
		}
	}
	return impl.SeeSides(impl.SeeCard(list, at, card), indicesOf(up))
}

func TestP8TheRealPacketStaysPossible(t *testing.T) {
	kinds := []int{impl.ChCut, impl.ChPair, impl.ChPick, impl.ChCut, impl.ChRiffle, impl.ChNone}
	for n := 2; n <= 5; n++ {
		for start, packet := range movePackets(n) {
			list := [][]int{packet}
			for round := range 60 {
				m := movesOf(n)[(7*round+start)%len(movesOf(n))]
				packet = moved(packet, m)
				var ok, fine bool
				list, ok = impl.AfterMove(list, m)
				kind := kinds[round%len(kinds)]
				results := chosen(packet, kind)
				packet = results[(5*round+start)%len(results)]
				list, fine = impl.AfterChoice(list, kind)
				if !ok || !fine {
					t.Fatalf("there is nothing possible after %v and the choice %d", m, kind)
				}
				if round%2 == 1 {
					list = look(list, packet, impl.BestLook(list))
				}
				if _, found := slices.BinarySearchFunc(list, packet, slices.Compare); !found || !impl.KnowOk(list) {
					t.Fatalf("the packet is %v after the round %d, but possible are %v", packet, round, list)
				}
				for at := range packet {
					if card := impl.KnownAt(list, at); card >= 0 && card != cardAt(packet, at) {
						t.Fatalf("the packet is %v, but the card known at %d is %d", packet, at, card)
					}
				}
			}
		}
	}
}

func TestP8OneLookNamesAllCardsAfterCuts(t *testing.T) {
	for n := 2; n <= 12; n++ {
		for _, p := range movePackets(n) {
			list := [][]int{p}
			for range 3 {
				list, _ = impl.AfterChoice(list, impl.ChCut)
			}
			if len(list) != n || impl.CountKnown(list) != 0 || impl.BestLook(list) != 0 {
				t.Errorf("after cuts of %v, %v are possible", p, list)
			}
			for at := range n {
				for i := range n {
					left := impl.SeeCard(list, at, cardAt(p, i))
					if len(left) != 1 || impl.CountKnown(left) != n || impl.KnownIndexOf(left, cardAt(p, i)) != at {
						t.Errorf("after cuts of %v, the card %d at %d leaves %v", p, cardAt(p, i), at, left)
					}
				}
			}
		}
	}
}

func TestP8BestLooksNameAllCards(t *testing.T) {
	for _, list := range [][][]int{permsOf(5), chosen(order(6), impl.ChRiffle), chosen(order(7), impl.ChPick), manyPackets(40)} {
		for _, packet := range list {
			left := list
			for looks := 0; len(left) > 1; looks++ {
				at := impl.BestLook(left)
				fewer := impl.SeeCard(left, at, cardAt(packet, at))
				if len(fewer) >= len(left) || looks > 12 {
					t.Fatalf("a look at %d leaves %v of %v", at, fewer, left)
				}
				left = fewer
			}
			if !sameLists(left, [][]int{packet}) || impl.CountKnown(left) != len(packet) {
				t.Errorf("of %v, %v is left instead of %v", list, left, packet)
			}
		}
	}
}

func TestP9KnowOk(t *testing.T) {
	for _, c := range []struct {
		list [][]int
		want bool
	}{
		{[][]int{{0, 1, 2}, {1, 0, 2}, {2, 0, 1}}, true}, {[][]int{{0}}, true}, {[][]int{{-12}}, true}, {[][]int{{-8}, {7}}, true}, {[][]int{{-2, 0}, {0, -2}}, true}, {[][]int{{0, -2}, {0, 1}}, true}, {[][]int{downElements}, true}, {[][]int{upElements, downElements}, true}, {permsOf(6), true},
		// No packets, and empty ones.
		{nil, false}, {[][]int{}, false}, {[][]int{nil}, false}, {[][]int{{}}, false}, {[][]int{{}, {0}}, false}, {[][]int{{0}, {}}, false}, {[][]int{nil, nil}, false},
		// Packets that are not valid.
		{[][]int{{12}}, false}, {[][]int{{-13}}, false}, {[][]int{{0, 0}}, false}, {[][]int{{-1, 0}}, false}, {[][]int{{0, 1}, {1, 12}}, false}, {[][]int{{0, 1}, {1, 1}}, false}, {[][]int{{0, 0}, {0, 1}}, false}, {[][]int{order(13)}, false}, {[][]int{{math.MinInt64}}, false},
		// Other cards and other lengths.
		{[][]int{{0, 1}, {0, 2}}, false}, {[][]int{{0}, {1}}, false}, {[][]int{{-2}, {0}}, false}, {[][]int{{0, 1}, {2, 3}}, false}, {[][]int{{0}, {0, 1}}, false}, {[][]int{{0, 1}, {1}}, false}, {[][]int{{0, 1}, {1, 0}, {1, 2}}, false}, {[][]int{{0, 1, 2}, {0, 2}}, false},
		// Not in ascending order, or one packet twice.
		{[][]int{{1, 0}, {0, 1}}, false}, {[][]int{{0, 1}, {0, 1}}, false}, {[][]int{{0, 1}, {1, 0}, {1, 0}}, false}, {[][]int{{0, 1}, {1, 0}, {0, 1}}, false}, {[][]int{{7}, {-8}}, false}, {[][]int{{0, -2}, {-2, 0}}, false}, {[][]int{{0, 1}, {0, -2}}, false}, {[][]int{{0, 1, 2}, {2, 0, 1}, {1, 0, 2}}, false},
		// Numbers and not their texts are compared.
		{[][]int{{9, 10}, {10, 9}}, true}, {[][]int{{10, 9}, {9, 10}}, false}, {[][]int{{-11, 2}, {-3, 10}}, true}, {[][]int{{-3, 10}, {-11, 2}}, false},
	} {
		if got := impl.KnowOk(c.list); got != c.want || got != knowOk(c.list) {
			t.Errorf("KnowOk(%v) = %t", c.list, got)
		}
	}
}

func TestP9KnowOkOfAllShortLists(t *testing.T) {
	packets := [][]int{{0, 1}, {1, 0}, {-1, 1}, {0, -2}, {-2, -1}, {0, 2}, {0}, {-1}, {}, {1, 1}, {12, 0}, {0, 1, 2}}
	for _, indices := range listsOver(order(len(packets)), 4) {
		var list [][]int
		for _, i := range indices {
			list = append(list, packets[i])
		}
		if got := impl.KnowOk(list); got != knowOk(list) {
			t.Errorf("KnowOk(%v) = %t", list, got)
		}
	}
}

func TestP9Known(t *testing.T) {
	for _, list := range slices.Concat(possibleLists(), fewPossibleLists()) {
		wantKnown(t, list)
	}
	for _, c := range []struct {
		list        [][]int
		cards       []int
		count, best int
	}{
		// Of one packet, all is known, whatever the sides.
		{[][]int{{4}}, []int{4}, 1, 0}, {[][]int{{-5}}, []int{4}, 1, 0}, {[][]int{{5, -8, 6}}, []int{5, 7, 6}, 3, 0}, {[][]int{upElements}, order(12), 12, 0},
		// Nothing is known.
		{[][]int{{0, 1}, {1, 0}}, []int{-1, -1}, 0, 0}, {[][]int{{0, 1, 2}, {1, 2, 0}, {2, 0, 1}}, []int{-1, -1, -1}, 0, 0}, {permsOf(5), repeated(-1, 5), 0, 0}, {[][]int{{0, 1, 2}, {1, 0, 2}, {2, 0, 1}}, repeated(-1, 3), 0, 0},
		// Something is known.
		{[][]int{{0, 1, 2}, {1, 0, 2}}, []int{-1, -1, 2}, 1, 0}, {[][]int{{0, 1, 2}, {0, 2, 1}}, []int{0, -1, -1}, 1, 1}, {[][]int{{0, 1, 2}, {2, 1, 0}}, []int{-1, 1, -1}, 1, 0}, {[][]int{{0, 1, 2, 3}, {0, 1, 3, 2}}, []int{0, 1, -1, -1}, 2, 2},
		// A card is known although its side is not.
		{[][]int{{-1}, {0}}, []int{0}, 1, 0}, {[][]int{{-1, 1}, {0, -2}}, []int{0, 1}, 2, 0}, {[][]int{{-1, 1, 2}, {0, 2, 1}}, []int{0, -1, -1}, 1, 1}, {[][]int{{-12, 5}, {5, 11}}, []int{-1, -1}, 0, 0},
		// Several indices are equally good: 1 and 2 leave one packet each, then 1 to 3 two.
		{[][]int{{0, 1, 2, 3}, {0, 2, 3, 1}, {0, 3, 1, 2}}, []int{0, -1, -1, -1}, 1, 1}, {[][]int{{0, 1, 2, 3}, {0, 1, 3, 2}, {0, 2, 1, 3}, {0, 3, 1, 2}}, []int{0, -1, -1, -1}, 1, 1},
		// The worst case counts, and not the number of different cards: four of them at 0 can leave three packets, and three at 1 only two.
		{[][]int{{0, 1, 2, 3}, {0, 2, 1, 3}, {0, 3, 1, 2}, {1, 3, 2, 0}, {2, 1, 0, 3}, {3, 2, 1, 0}}, repeated(-1, 4), 0, 1},
	} {
		wantKnown(t, c.list)
		for at, card := range c.cards {
			if got := impl.KnownAt(c.list, at); got != card {
				t.Errorf("KnownAt(%v, %d) = %d, want %d", c.list, at, got, card)
			}
			if card >= 0 && impl.KnownIndexOf(c.list, card) != at {
				t.Errorf("KnownIndexOf(%v, %d) = %d, want %d", c.list, card, impl.KnownIndexOf(c.list, card), at)
			}
		}
		if count, best := impl.CountKnown(c.list), impl.BestLook(c.list); count != c.count || best != c.best {
			t.Errorf("for %v, CountKnown is %d and BestLook %d; want %d and %d", c.list, count, best, c.count, c.best)
		}
	}
}

func TestP9NoIndexAndNoCard(t *testing.T) {
	for i, list := range possibleLists() {
		n := len(list[0])
		for _, far := range slices.Concat(outsideOf(n), farNumbers, noCardElements) {
			if got := impl.KnownAt(list, far); got != -1 && (far < 0 || far >= n) {
				t.Errorf("KnownAt(%v, %d) = %d", list, far, got)
			}
			if got := impl.KnownIndexOf(list, far); got != -1 && (far < 0 || far > 11) {
				t.Errorf("KnownIndexOf(%v, %d) = %d", list, far, got)
			}
			if i%5 > 0 {
				continue
			}
			for card := range 12 {
				wantSeen(t, fmt.Sprintf("the card %d at %d of %v", card, far, list), impl.SeeCard(list, far, card), packetsWith(list, far, card))
			}
			for at := range n {
				wantSeen(t, fmt.Sprintf("the card %d at %d of %v", far, at, list), impl.SeeCard(list, at, far), packetsWith(list, at, far))
			}
			wantSeen(t, fmt.Sprintf("the card %d at %d of %v", far, far, list), impl.SeeCard(list, far, far), packetsWith(list, far, far))
		}
		// A card that the packets do not have is known nowhere.
		for card := range 12 {
			has := slices.ContainsFunc(list[0], func(x int) bool { c, _ := tableCard(x); return c == card })
			if got := impl.KnownIndexOf(list, card); got != -1 && !has {
				t.Errorf("KnownIndexOf(%v, %d) = %d", list, card, got)
			}
		}
	}
}

func TestP9SeeCard(t *testing.T) {
	three := [][]int{{0, 1, 2}, {1, 0, 2}, {2, 0, 1}}
	sides := [][]int{{-2, 0}, {-1, 1}, {0, -2}, {0, 1}, {1, -1}}
	for _, c := range []struct {
		list     [][]int
		at, card int
		want     [][]int
	}{
		{three, 1, 0, three[1:]}, {three, 0, 0, three[:1]}, {three, 0, 1, three[1:2]}, {three, 0, 2, three[2:]}, {three, 2, 2, three[:2]}, {three, 2, 1, three[2:]}, {three, 1, 1, three[:1]},
		// A card that is in no packet at this index, one that the packets do not have, and one that is none.
		{three, 1, 2, nil}, {three, 2, 0, nil}, {three, 0, 3, nil}, {three, 0, 11, nil}, {three, 0, 12, nil}, {three, 0, -1, nil}, {three, 0, -2, nil}, {three, 1, -1, nil}, {sides, 0, -1, nil}, {sides, 0, -2, nil}, {sides, 1, -2, nil},
		// An index that does not exist.
		{three, 3, 0, nil}, {three, 9, 0, nil}, {three, -1, 0, nil}, {three, -1, -1, nil}, {three, 3, -1, nil}, {three, 12, 2, nil}, {[][]int{downElements}, 12, 11, nil}, {[][]int{downElements}, 12, 12, nil},
		// A card is seen on both its sides.
		{sides, 0, 0, sides[1:4]}, {sides, 0, 1, [][]int{{-2, 0}, {1, -1}}}, {sides, 1, 1, sides[1:4]}, {sides, 1, 0, [][]int{{-2, 0}, {1, -1}}}, {[][]int{{-1}, {0}}, 0, 0, [][]int{{-1}, {0}}}, {[][]int{upElements}, 11, 11, [][]int{upElements}}, {[][]int{upElements, downElements}, 5, 5, [][]int{upElements, downElements}},
	} {
		wantSeen(t, fmt.Sprintf("the card %d at %d of %v", c.card, c.at, c.list), impl.SeeCard(c.list, c.at, c.card), c.want)
	}
	for _, list := range slices.Concat(possibleLists(), fewPossibleLists()) {
		for at := -1; at <= len(list[0]); at++ {
			for card := -1; card <= 12; card++ {
				wantSeen(t, fmt.Sprintf("the card %d at %d of %v", card, at, list), impl.SeeCard(list, at, card), packetsWith(list, at, card))
			}
		}
	}
}

func TestP9SeeSides(t *testing.T) {
	sides := [][]int{{-2, -1}, {-2, 0}, {-1, -2}, {-1, 1}, {0, -2}, {0, 1}, {1, -1}, {1, 0}}
	three := [][]int{{0, 1, 2}, {1, 0, 2}, {2, 0, 1}}
	none, first, second, both := [][]int{{0, 1}, {1, 0}}, [][]int{{-2, 0}, {-1, 1}}, [][]int{{0, -2}, {1, -1}}, [][]int{{-2, -1}, {-1, -2}}
	for _, c := range []struct {
		list [][]int
		up   []int
		want [][]int
	}{
		{[][]int{{-2, 0}, {0, -2}}, []int{0}, [][]int{{-2, 0}}}, {sides, []int{0}, first}, {sides, []int{1}, second}, {sides, []int{0, 1}, both}, {sides, []int{1, 0}, both},
		// An empty list: all lie face down.
		{sides, nil, none}, {sides, []int{}, none}, {three, nil, three}, {[][]int{downElements}, nil, [][]int{downElements}}, {[][]int{upElements}, nil, nil}, {[][]int{{-1}, {0}}, nil, [][]int{{0}}},
		// An index that does not exist, or that stands in the list more than once.
		{sides, []int{2}, none}, {sides, []int{-1}, none}, {sides, []int{11, 12}, none}, {sides, []int{math.MinInt64, math.MaxInt64}, none}, {sides, []int{0, 2}, first}, {sides, []int{5, 1, -1}, second}, {sides, []int{13, 0, 255, 1}, both}, {sides, []int{256, 1 << 32, 257}, none},
		{sides, []int{0, 0}, first}, {sides, []int{1, 1, 1}, second}, {sides, []int{0, 1, 0, 1}, both}, {sides, []int{2, 2, 0, 0, -1, -1}, first}, {sides, repeated(1, 5000), second}, {sides, repeated(3, 5000), none},
		{three, []int{0}, nil}, {three, []int{2}, nil}, {three, []int{3, 4, 12}, three}, {[][]int{upElements}, order(12), [][]int{upElements}}, {[][]int{upElements}, order(11), nil}, {[][]int{upElements}, order(5000), [][]int{upElements}}, {[][]int{downElements}, order(12), nil}, {[][]int{downElements}, []int{12}, [][]int{downElements}},
	} {
		wantSeen(t, fmt.Sprintf("%v face up of %v", c.up, c.list), impl.SeeSides(c.list, c.up), c.want)
	}
	for i, list := range slices.Concat(possibleLists(), fewPossibleLists()) {
		for up := i % 5; up < 1<<12; up += 1 + 4*len(list) {
			indices := append(indicesOf(up), len(list[0]), -1, len(list[0])+3)
			wantSeen(t, fmt.Sprintf("%v face up of %v", indices, list), impl.SeeSides(list, indices), packetsUp(list, up))
		}
	}
}

func TestP9AfterMove(t *testing.T) {
	three := [][]int{{0, 1, 2}, {1, 0, 2}, {2, 0, 1}}
	for _, c := range []struct {
		list [][]int
		m    impl.Move
		want [][]int
	}{
		{three, impl.Move{Kind: impl.MvCut, K: 1}, [][]int{{0, 1, 2}, {0, 2, 1}, {1, 2, 0}}}, {three, impl.Move{Kind: impl.MvCut}, three}, {three, impl.Move{Kind: impl.MvFlip, K: 2}, [][]int{{-2, -1, 2}, {-1, -3, 1}, {-1, -2, 2}}},
		{three, impl.Move{Kind: impl.MvTurn, K: 2}, [][]int{{0, 1, -3}, {1, 0, -3}, {2, 0, -2}}}, {three, impl.Move{Kind: impl.MvTurn}, [][]int{{-3, 0, 1}, {-2, 0, 2}, {-1, 1, 2}}}, {[][]int{{-1}, {0}}, impl.Move{Kind: impl.MvFlip, K: 1}, [][]int{{-1}, {0}}}, {[][]int{{-12}}, impl.Move{Kind: impl.MvMilk}, [][]int{{-12}}},
		{three, impl.Move{Kind: impl.MvTurn, K: 3}, nil}, {three, impl.Move{Kind: impl.MvCut, K: 4}, nil}, {three, impl.Move{Kind: impl.MvCut, K: -1}, nil}, {three, impl.Move{}, nil}, {three, impl.Move{Kind: 10}, nil}, {three, impl.Move{Kind: -1}, nil}, {three, impl.Move{Kind: impl.MvMilk, K: 1}, nil},
	} {
		got, ok := impl.AfterMove(c.list, c.m)
		wantResults(t, fmt.Sprintf("the packets of %v after %v", c.list, c.m), got, ok, c.want, c.want != nil)
	}
	for _, list := range slices.Concat(possibleLists(), fewPossibleLists()) {
		for kind := -1; kind <= 11; kind++ {
			for k := -1; k <= len(list[0])+1; k++ {
				wantAfterMove(t, list, impl.Move{Kind: kind, K: k})
			}
		}
	}
	for n := 1; n <= 12; n++ {
		list := [][]int{movePackets(n)[4]}
		for _, far := range farNumbers {
			for other := range 13 {
				wantAfterMove(t, list, impl.Move{Kind: far, K: other})
				wantAfterMove(t, list, impl.Move{Kind: other, K: far})
			}
		}
	}
}

func TestP9AfterChoice(t *testing.T) {
	for _, c := range []struct {
		list [][]int
		kind int
		want [][]int
	}{
		{[][]int{{0, 1, 2}}, impl.ChCut, [][]int{{0, 1, 2}, {1, 2, 0}, {2, 0, 1}}}, {[][]int{{0, 1, 2}, {1, 2, 0}}, impl.ChCut, [][]int{{0, 1, 2}, {1, 2, 0}, {2, 0, 1}}}, {[][]int{{0, 1}, {1, 0}}, impl.ChNone, [][]int{{0, 1}, {1, 0}}}, {[][]int{{-1}, {0}}, impl.ChPick, [][]int{{-1}, {0}}},
		{[][]int{{0, 1}}, impl.ChPair, [][]int{{-2, -1}, {-1, -2}}}, {[][]int{{-2, -1}, {0, 1}}, impl.ChPair, [][]int{{-2, -1}, {-1, -2}, {0, 1}, {1, 0}}}, {[][]int{{0, 1, 2}, {1, 2, 0}}, impl.ChRiffle, permsOf(3)}, {[][]int{{5, -8, 6}}, impl.ChPick, [][]int{{-8, 5, 6}, {5, -8, 6}, {6, 5, -8}}},
		// A choice that does not exist, or not for one card, and too many results.
		{[][]int{{0, 1}}, 5, nil}, {[][]int{{0, 1}}, -1, nil}, {[][]int{{0}}, impl.ChPair, nil}, {[][]int{{-1}, {0}}, impl.ChPair, nil}, {[][]int{downElements}, impl.ChRiffle, nil}, {[][]int{upElements, downElements}, impl.ChRiffle, nil}, {[][]int{upElements[:11], downElements[:11]}, impl.ChRiffle, nil},
	} {
		got, ok := impl.AfterChoice(c.list, c.kind)
		wantResults(t, fmt.Sprintf("the packets of %v after the choice %d", c.list, c.kind), got, ok, c.want, c.want != nil)
	}
	for _, list := range fewPossibleLists() {
		for kind := range 5 {
			var want [][]int
			for _, p := range list {
				want = append(want, chosen(p, kind)...)
			}
			got, ok := impl.AfterChoice(list, kind)
			wantResults(t, fmt.Sprintf("the packets of %v after the choice %d", list, kind), got, ok, inOrder(want), want != nil)
		}
		for _, kind := range append(ascending(5, 13, 1), farNumbers...) {
			got, ok := impl.AfterChoice(list, kind)
			wantResults(t, fmt.Sprintf("the packets of %v after the choice %d", list, kind), got, ok, nil, false)
		}
	}
}

func TestP9KnowledgeUpToMaxResults(t *testing.T) {
	// The packets are in lexicographic order, and the lists end around all the parts in which they might be counted.
	for _, n := range []int{1, 250, 251, 499, 500, 501, 1000, 1001, 2501, 2999, 3000} {
		list := manyPackets(n)
		wantKnown(t, list)
		at := 5 + n%7
		var all [][]int
		for card := range 12 {
			all = append(all, impl.SeeCard(list, at, card)...)
		}
		slices.SortFunc(all, slices.Compare)
		wantSeen(t, "each card", all, list)
		wantSeen(t, "two face up", impl.SeeSides(list, []int{3, 0}), list)
		wantSeen(t, "three face up", impl.SeeSides(list, []int{3, 0, 11}), nil)
		same, ok := impl.AfterChoice(list, impl.ChNone)
		wantResults(t, "the packets after no choice", same, ok, list, true)
		same, ok = impl.AfterMove(list, impl.Move{Kind: impl.MvCut, K: 12})
		wantResults(t, "the packets after no cut", same, ok, list, true)
		after, ok := impl.AfterMove(list, impl.Move{Kind: impl.MvCut, K: 5})
		if !ok || len(after) != n || !knowOk(after) {
			t.Errorf("after a cut, %d packets are %d, %t", n, len(after), ok)
		}
		wantSeen(t, "the top card after the cut", impl.SeeCard(after, 0, 0), after[:min(n, 720)])
		got, ok := impl.AfterChoice(list, impl.ChCut)
		if ok != (n <= 250) || len(got) != 0 && len(got) != 12*n {
			t.Errorf("after cuts, %d packets are %d, %t", n, len(got), ok)
		}
	}
	for _, n := range []int{3001, 3002, 4000, 5000} {
		wantNothing(t, manyPackets(n))
	}
	for _, n := range []int{250, 251} {
		got, ok := impl.AfterChoice(manyPackets(n), impl.ChPair)
		if want := []int{3000, 0}[n-250]; ok != (n == 250) || len(got) != want {
			t.Errorf("after pairs, %d packets are %d, %t", n, len(got), ok)
		}
	}
}

func TestP9NothingIsKnownOfWhatIsNotValid(t *testing.T) {
	for _, list := range [][][]int{
		nil, {}, {nil}, {{}}, {{}, {0}}, {{0}, {}}, {{0, 1}, {}}, {nil, {0, 1}}, {{0, 1}, {0, 2}}, {{0, 1}, {2, 3}}, {{0}, {0, 1}}, {{0, 1}, {1}}, {{0, 1}, {1, 0}, {2, 0}}, {{0, 1}, {1, 0, 2}}, {{0}, {1}}, {{-2}, {0}},
		{{1, 0}, {0, 1}}, {{0, 1}, {0, 1}}, {{0, 1}, {1, 0}, {1, 0}}, {{0, 1}, {1, 0}, {0, 1}}, {{0}, {-1}}, {{0, -2}, {-2, 0}}, {{10, 9}, {9, 10}}, {downElements, upElements}, {downElements, downElements},
		slices.Repeat([][]int{{0, 1}}, 3001), slices.Repeat([][]int{nil}, 5000), {order(5000)}, {order(13)}, {order(13), order(13)},
	} {
		wantNothing(t, list)
	}
	for _, p := range slices.Concat(noPackets, spoiltPackets()) {
		wantNothing(t, [][]int{p})
		wantNothing(t, [][]int{{0, 1}, p})
		wantNothing(t, [][]int{p, {1, 0}})
	}
}

func TestP9OnePacketSpoilsTheList(t *testing.T) {
	for _, n := range []int{2, 3, 4} {
		list := permsOf(n)
		for i, p := range list {
			last := slices.Index(p, n-1)
			bads := [][]int{nil, p[:n-1], append(slices.Clone(p), 11)}
			// The order stays ascending with a greater element in the place of the greatest one.
			for _, x := range []int{n, 11, 12, math.MaxInt64} {
				bad := slices.Clone(p)
				bad[last] = x
				bads = append(bads, bad)
			}
			// A card twice, and packets that stand elsewhere in the list.
			for _, x := range []int{0, -1} {
				bad := slices.Clone(p)
				bad[last] = x
				bads = append(bads, bad)
			}
			for j, q := range list {
				if j != i {
					bads = append(bads, q)
				}
			}
			for _, bad := range bads {
				spoilt := slices.Clone(list)
				spoilt[i] = bad
				wantNothing(t, spoilt)
			}
		}
	}
}

// Results share no memory with each other or with the list, whose packets lie one behind the other here.
func TestP9KnowledgeIsNew(t *testing.T) {
	for i, from := range possibleLists() {
		n := len(from[0])
		elements := slices.Concat(from...)
		elements = append(elements, 97, 98, 99)
		before := slices.Clone(elements)
		list := make([][]int, 0, len(from)+5)
		for at := range from {
			list = append(list, elements[at*n:at*n+n])
		}
		up := append(make([]int, 0, 9), indicesOf(i%64)...)
		for range 2 {
			var results [][][]int
			for at := range n {
				results = append(results, impl.SeeCard(list, at, cardAt(from[0], at)))
			}
			results = append(results, impl.SeeSides(list, nil), impl.SeeSides(list, up))
			for _, m := range []impl.Move{{Kind: impl.MvCut}, {Kind: impl.MvFlip, K: n}, {Kind: impl.MvUnder, K: n - 1}, {Kind: impl.MvMilk}} {
				wantAfterMove(t, list, m)
				after, _ := impl.AfterMove(list, m)
				results = append(results, after)
			}
			for _, kind := range []int{impl.ChNone, impl.ChCut, impl.ChPick} {
				after, _ := impl.AfterChoice(list, kind)
				results = append(results, after)
			}
			wantKnown(t, list)
			spoil(t, "packets", slices.Concat(results...))
			for _, result := range results {
				clear(result[:cap(result)])
			}
			if !slices.Equal(elements, before) || !sameLists(list, from) || list[:len(from)+1][len(from)] != nil {
				t.Fatalf("%v has become %v", from, list)
			}
			if !slices.Equal(up, indicesOf(i%64)) || slices.Max(append(up[len(up):9], 0)) != 0 {
				t.Fatalf("the indices of %b have become %v", i%64, up)
			}
		}
	}
}

func TestP9ListsOfNothingKnownAreNotChanged(t *testing.T) {
	for _, from := range [][][]int{{{1, 0}, {0, 1}}, {{0, 1}, {0, 1}, {1, 0}}, {{0, 1}, {}, {12}}, {{2, 1, 0}, {0, 2}}, {{-13}, nil}} {
		list := make([][]int, 0, 9)
		for _, p := range from {
			list = append(list, append(slices.Clone(p), 97, 98)[:len(p)])
		}
		wantNothing(t, list)
		for i, p := range list {
			if !slices.Equal(p[:len(p)+2], append(slices.Clone(from[i]), 97, 98)) {
				t.Errorf("%v has become %v", from[i], p[:len(p)+2])
			}
		}
		if list[:len(from)+1][len(from)] != nil {
			t.Errorf("behind %v stands %v", from, list[:len(from)+1])
		}
	}
}

func TestP9KnowledgeAtTheSameTime(t *testing.T) {
	lists := [][][]int{{{5, -8, 6}}, chosen(order(6), impl.ChRiffle), permsOf(4), inOrder(sidedPackets(order(3))), manyPackets(501), manyPackets(1700)}
	var group sync.WaitGroup
	for worker := range 8 {
		group.Go(func() {
			for i := range 2 * len(lists) {
				list := lists[(worker+i)%len(lists)]
				wantKnown(t, list)
				at := (worker + i) % len(list[0])
				wantSeen(t, "the card of the first packet", impl.SeeCard(list, at, cardAt(list[0], at)), packetsWith(list, at, cardAt(list[0], at)))
				same, ok := impl.AfterChoice(list, impl.ChNone)
				wantResults(t, "the packets after no choice", same, ok, list, true)
			}
		})
	}
	group.Wait()
}

func TestP9KnowledgeLeavesNothingRunning(t *testing.T) {
	before := runtime.NumGoroutine()
	for _, list := range [][][]int{{{0, 1}}, permsOf(4), manyPackets(3000), manyPackets(3001), nil} {
		for range 20 {
			impl.KnownAt(list, 0)
			impl.KnownAt(list, -1)
			impl.KnownIndexOf(list, 0)
			impl.CountKnown(list)
			impl.BestLook(list)
		}
	}
	// A worker that is joined may still be about to end.
	for range 2000 {
		if runtime.NumGoroutine() <= before {
			return
		}
		time.Sleep(time.Millisecond)
	}
	t.Errorf("%d goroutines have become %d", before, runtime.NumGoroutine())
}
