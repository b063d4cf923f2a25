package tests

import (
	"fmt"
	"math"
	"slices"
	"sync"
	"testing"

	"loop.example/g00846/impl"
)

// pileSizes are all numbers of cards, each with a number of piles into which they can be dealt.
var pileSizes = []struct{ n, piles int }{
	{2, 2}, {3, 3}, {4, 2}, {4, 4}, {6, 2}, {6, 3}, {8, 2}, {8, 4}, {9, 3}, {10, 2}, {12, 2}, {12, 3}, {12, 4},
}

// noPiles are numbers of piles into which no packet can be dealt.
var noPiles = slices.Concat([]int{0, 1, 5, 6, 8, 12, -4, -6, 1<<32 + 2, 1<<32 + 3, -1<<32 + 4, math.MinInt64 + 2, math.MinInt64 + 3}, farNumbers)

// pilesOk looks for the numbers in the list above.
func pilesOk(n int, piles int) bool {
	for _, size := range pileSizes {
		if size.n == n && size.piles == piles {
			return true
		}
	}
	return false
}

// pilesOf returns the piles of a packet that can be dealt: each begins with one of the last cards.
func pilesOf(p []int, piles int) [][]int {
	list := make([][]int, piles)
	for pile := range list {
		for i := len(p) - piles + pile; i >= 0; i -= piles {
			list[pile] = append(list[pile], p[i])
		}
	}
	return list
}

// gathered returns the elements of the piles, the chosen one at the index place and the others at the indices that are left.
func gathered(list [][]int, chosen int, place int) []int {
	p := []int{}
	others := 0
	for at := range list {
		pile := chosen
		if at != place {
			if others == chosen {
				others++
			}
			pile = others
			others++
		}
		p = append(p, list[pile]...)
	}
	return p
}

// indexAfter returns the index of a chosen card after a round, by a formula: it has size cards for each pile above its own,
// and those that were dealt onto it.
func indexAfter(n int, piles int, index int, place int) int {
	size := n / piles
	return place*size + size - 1 - index/piles
}

// afterPlaces returns the index of a chosen card after rounds with these places.
func afterPlaces(n int, piles int, index int, places []int) int {
	for _, place := range places {
		index = indexAfter(n, piles, index, place)
	}
	return index
}

// firstPlaces tries shorter lists before longer ones, and lists of equal length in lexicographic order, until one brings the
// card from index to target.
func firstPlaces(n int, piles int, index int, target int) []int {
	for _, places := range listsOver(order(piles), 4) {
		if afterPlaces(n, piles, index, places) == target {
			return append([]int{}, places...)
		}
	}
	return nil
}

// meetingOf returns after how many rounds with the same place the chosen cards have met, and their index then, by following
// each of them for many rounds; -1 and -1 if they do not meet.
func meetingOf(n int, piles int, place int) (rounds int, index int) {
	for rounds := range 100 {
		indices := map[int]bool{}
		for i := range n {
			index = afterPlaces(n, piles, i, repeated(place, rounds))
			indices[index] = true
		}
		if len(indices) == 1 {
			return rounds, index
		}
	}
	return -1, -1
}

// eachRound calls check for each valid number of cards and piles, each place and each index.
func eachRound(check func(n int, piles int, index int, place int)) {
	for _, size := range pileSizes {
		for place := range size.piles {
			for index := range size.n {
				check(size.n, size.piles, index, place)
			}
		}
	}
}

// roundOf returns the packet after a round, which must not fail.
func roundOf(t *testing.T, p []int, piles int, card int, place int) []int {
	t.Helper()
	q, ok := impl.PileRound(p, piles, card, place)
	if !ok || !impl.IsArrangement(p, q) {
		t.Fatalf("PileRound(%v, %d, %d, %d) = %v, %t", p, piles, card, place, q, ok)
	}
	return q
}

// wantPiles checks PilesOf; if want is nil, there are no piles.
func wantPiles(t *testing.T, p []int, piles int, want [][]int) {
	t.Helper()
	if got := impl.PilesOf(p, piles); !sameLists(got, want) {
		t.Errorf("PilesOf(%v, %d) = %v, want %v", p, piles, got, want)
	}
}

// wantGathered checks GatherPiles; if want is nil, it fails.
func wantGathered(t *testing.T, list [][]int, chosen int, place int, want []int) {
	t.Helper()
	got, ok := impl.GatherPiles(list, chosen, place)
	wantPerm(t, fmt.Sprintf("GatherPiles(%v, %d, %d)", list, chosen, place), got, ok, want)
}

// wantRound checks PileRound; if want is nil, it fails.
func wantRound(t *testing.T, p []int, piles int, card int, place int, want []int) {
	t.Helper()
	got, ok := impl.PileRound(p, piles, card, place)
	wantPerm(t, fmt.Sprintf("PileRound(%v, %d, %d, %d)", p, piles, card, place), got, ok, want)
}

// wantPlaces checks PlacesFor; if want is nil, it fails.
func wantPlaces(t *testing.T, n int, piles int, index int, target int, want []int) {
	t.Helper()
	got, ok := impl.PlacesFor(n, piles, index, target)
	wantPerm(t, fmt.Sprintf("PlacesFor(%d, %d, %d, %d)", n, piles, index, target), got, ok, want)
}

func TestP7RoundBringsTheChosenCardToIndexAfter(t *testing.T) {
	eachRound(func(n int, piles int, index int, place int) {
		want := impl.IndexAfter(n, piles, index, place)
		for _, p := range movePackets(n) {
			card := impl.CardOf(p[index])
			q := roundOf(t, p, piles, card, place)
			if got := impl.PositionOf(q, card); got != want {
				t.Errorf("IndexAfter(%d, %d, %d, %d) = %d, but the card %d of %v comes to %d in %v", n, piles, index, place, want, card, p, got, q)
			}
			list := impl.PilesOf(p, piles)
			chosen := slices.IndexFunc(list, func(pile []int) bool { return impl.PositionOf(pile, card) >= 0 })
			wantGathered(t, list, chosen, place, q)
		}
	})
}

func TestP7ChosenPileStandsAtItsPlace(t *testing.T) {
	eachRound(func(n int, piles int, index int, place int) {
		p := order(n)
		q := roundOf(t, p, piles, index, place)
		size := n / piles
		pile := q[place*size : place*size+size]
		others := slices.Concat(q[:place*size], q[place*size+size:])
		list := impl.PilesOf(p, piles)
		if !slices.Equal(pile, list[index%piles]) || !slices.Contains(pile, index) {
			t.Errorf("PileRound(%v, %d, %d, %d) = %v has %v at the place", p, piles, index, place, q, pile)
		}
		if want := slices.Concat(slices.Delete(list, index%piles, index%piles+1)...); !slices.Equal(others, want) {
			t.Errorf("PileRound(%v, %d, %d, %d) = %v has %v beside the place, want %v", p, piles, index, place, q, others, want)
		}
	})
}

func TestP7RoundsBringEveryChosenCardToFixedIndex(t *testing.T) {
	for _, size := range pileSizes {
		for place := range size.piles {
			needed := impl.RoundsNeeded(size.n, size.piles, place)
			fixed := impl.FixedIndex(size.n, size.piles, place)
			packets := slices.Repeat([][]int{movePackets(size.n)[4]}, size.n)
			// The indices of all chosen cards together are again the same ones long before the last of these rounds.
			for rounds := range 40 {
				indices := map[int]bool{}
				for i, p := range packets {
					card := impl.CardOf(movePackets(size.n)[4][i])
					indices[impl.PositionOf(p, card)] = true
					packets[i] = roundOf(t, p, size.piles, card, place)
				}
				met := needed >= 0 && rounds >= needed
				if (len(indices) == 1) != met || met && !indices[fixed] {
					t.Errorf("after %d rounds with %d cards, %d piles and the place %d, the indices are %v; RoundsNeeded is %d and FixedIndex %d", rounds, size.n, size.piles, place, indices, needed, fixed)
				}
			}
		}
	}
}

func TestP7PlacesBringEachCardToEachTarget(t *testing.T) {
	for _, size := range pileSizes {
		for _, p := range movePackets(size.n) {
			for index := range size.n {
				for target := range size.n {
					places, ok := impl.PlacesFor(size.n, size.piles, index, target)
					if !ok || len(places) > 4 {
						t.Fatalf("PlacesFor(%d, %d, %d, %d) = %v, %t", size.n, size.piles, index, target, places, ok)
					}
					q := p
					card := impl.CardOf(p[index])
					for _, place := range places {
						q = roundOf(t, q, size.piles, card, place)
					}
					if at := impl.PositionOf(q, card); at != target {
						t.Errorf("with %d piles, the places %v bring the card %d of %v to %d and not to %d", size.piles, places, card, p, at, target)
					}
				}
			}
		}
	}
}

func TestP7NoShorterAndNoEarlierPlaces(t *testing.T) {
	for _, size := range pileSizes {
		lists := listsOver(order(size.piles), 4)
		for index := range size.n {
			// Where each list brings the card, from the packets after real rounds.
			packets := map[string][]int{"[]": order(size.n)}
			for _, list := range lists[1:] {
				last := len(list) - 1
				packets[fmt.Sprint(list)] = roundOf(t, packets[fmt.Sprint(list[:last])], size.piles, index, list[last])
			}
			for target := range size.n {
				places, ok := impl.PlacesFor(size.n, size.piles, index, target)
				for _, list := range lists {
					reached := impl.PositionOf(packets[fmt.Sprint(list)], index) == target
					if reached && (!ok || len(list) < len(places) || len(list) == len(places) && firstInOrder(list, places)) {
						t.Errorf("PlacesFor(%d, %d, %d, %d) = %v, %t, but %v is enough", size.n, size.piles, index, target, places, ok, list)
					}
				}
			}
		}
	}
}

func TestP9PilesOk(t *testing.T) {
	numbers := slices.Concat(ascending(0, 30, 1), noPiles)
	for _, n := range numbers {
		for _, piles := range numbers {
			if got := impl.PilesOk(n, piles); got != pilesOk(n, piles) {
				t.Errorf("PilesOk(%d, %d) = %t", n, piles, got)
			}
		}
	}
	if impl.MaxPiles != 4 {
		t.Errorf("MaxPiles is %d", impl.MaxPiles)
	}
}

func TestP9PilesOf(t *testing.T) {
	for _, c := range []struct {
		p     []int
		piles int
		want  [][]int
	}{
		{[]int{0, 1}, 2, [][]int{{0}, {1}}}, {[]int{7, -4, 11}, 3, [][]int{{7}, {-4}, {11}}}, {[]int{3, 2, 1, 0}, 4, [][]int{{3}, {2}, {1}, {0}}}, {[]int{0, 1, 2, 3}, 2, [][]int{{2, 0}, {3, 1}}},
		{[]int{0, 1, 2, 3, 4, 5}, 3, [][]int{{3, 0}, {4, 1}, {5, 2}}}, {[]int{0, 1, 2, 3, 4, 5}, 2, [][]int{{4, 2, 0}, {5, 3, 1}}}, {[]int{-1, 5, -8, 2, 9, -4}, 2, [][]int{{9, -8, -1}, {-4, 2, 5}}},
		{order(8), 4, [][]int{{4, 0}, {5, 1}, {6, 2}, {7, 3}}}, {order(9), 3, [][]int{{6, 3, 0}, {7, 4, 1}, {8, 5, 2}}}, {order(12), 4, [][]int{{8, 4, 0}, {9, 5, 1}, {10, 6, 2}, {11, 7, 3}}}, {upElements, 2, [][]int{{-11, -9, -7, -5, -3, -1}, {-12, -10, -8, -6, -4, -2}}},
		// No cards, too few, a number of them that is no multiple, too many, and a number of piles that is too small or too great.
		{nil, 2, nil}, {[]int{}, 3, nil}, {nil, 0, nil}, {[]int{0}, 2, nil}, {[]int{0}, 1, nil}, {order(2), 3, nil}, {order(2), 4, nil}, {order(3), 2, nil}, {order(5), 3, nil}, {order(5), 5, nil}, {order(6), 4, nil}, {order(10), 3, nil}, {order(10), 5, nil}, {order(11), 2, nil},
		{order(14), 2, nil}, {order(15), 3, nil}, {order(16), 4, nil}, {order(4), 1, nil}, {order(4), 0, nil}, {order(4), -1, nil}, {order(4), -2, nil}, {order(6), 6, nil}, {order(12), 6, nil}, {order(12), 12, nil},
		// Cards that come twice, and elements that are no cards.
		{[]int{0, 0}, 2, nil}, {[]int{3, -4}, 2, nil}, {[]int{0, 12}, 2, nil}, {[]int{-13, 0, 1}, 3, nil}, {[]int{0, 1, 2, 0}, 2, nil}, {[]int{0, 1, 2, math.MinInt64}, 4, nil}, {[]int{math.MaxInt64, 1, 2, 3}, 2, nil},
	} {
		wantPiles(t, c.p, c.piles, c.want)
	}
	for n := 1; n <= 12; n++ {
		for _, p := range movePackets(n) {
			for _, piles := range append([]int{2, 3, 4}, noPiles...) {
				var want [][]int
				if pilesOk(n, piles) {
					want = pilesOf(p, piles)
				}
				wantPiles(t, p, piles, want)
			}
		}
	}
}

func TestP9GatherPiles(t *testing.T) {
	for _, c := range []struct {
		list          [][]int
		chosen, place int
		want          []int
	}{
		{[][]int{{3, 0}, {4, 1}, {5, 2}}, 0, 0, []int{3, 0, 4, 1, 5, 2}}, {[][]int{{3, 0}, {4, 1}, {5, 2}}, 0, 1, []int{4, 1, 3, 0, 5, 2}}, {[][]int{{3, 0}, {4, 1}, {5, 2}}, 0, 2, []int{4, 1, 5, 2, 3, 0}},
		{[][]int{{3, 0}, {4, 1}, {5, 2}}, 1, 0, []int{4, 1, 3, 0, 5, 2}}, {[][]int{{3, 0}, {4, 1}, {5, 2}}, 1, 1, []int{3, 0, 4, 1, 5, 2}}, {[][]int{{3, 0}, {4, 1}, {5, 2}}, 1, 2, []int{3, 0, 5, 2, 4, 1}},
		{[][]int{{3, 0}, {4, 1}, {5, 2}}, 2, 0, []int{5, 2, 3, 0, 4, 1}}, {[][]int{{3, 0}, {4, 1}, {5, 2}}, 2, 1, []int{3, 0, 5, 2, 4, 1}}, {[][]int{{3, 0}, {4, 1}, {5, 2}}, 2, 2, []int{3, 0, 4, 1, 5, 2}},
		{[][]int{{0}, {1}}, 0, 1, []int{1, 0}}, {[][]int{{0}, {1}}, 1, 0, []int{1, 0}}, {[][]int{{0}, {1}}, 1, 1, []int{0, 1}}, {[][]int{{7}, {-4}, {11}, {-1}}, 3, 0, []int{-1, 7, -4, 11}}, {[][]int{{7}, {-4}, {11}, {-1}}, 0, 3, []int{-4, 11, -1, 7}}, {[][]int{{7}, {-4}, {11}, {-1}}, 2, 1, []int{7, 11, -4, -1}},
		// Piles of different sizes, and empty ones.
		{[][]int{{5}, {4, 3, 2}, {1, 0}}, 1, 0, []int{4, 3, 2, 5, 1, 0}}, {[][]int{{}, {4, -4, 2}}, 1, 0, []int{4, -4, 2}}, {[][]int{{8}, nil, {9, 2}}, 1, 2, []int{8, 9, 2}}, {[][]int{{8}, nil, {9, 2}}, 2, 0, []int{9, 2, 8}}, {[][]int{nil, nil}, 0, 1, []int{}}, {[][]int{{}, {}, {}, {}}, 3, 3, []int{}},
		{[][]int{order(12), {}}, 0, 1, order(12)}, {[][]int{upElements[:5], upElements[5:]}, 1, 1, upElements},
		// No list, too few piles and too many.
		{nil, 0, 0, nil}, {[][]int{}, 0, 0, nil}, {[][]int{nil}, 0, 0, nil}, {[][]int{{0, 1}}, 0, 0, nil}, {[][]int{{0}, {1}, {2}, {3}, {4}}, 0, 0, nil}, {[][]int{{0}, {1}, {2}, {3}, {}}, 4, 4, nil}, {[][]int{{}, {}, {}, {}, {}, {}}, 2, 1, nil},
		// No index of a pile.
		{[][]int{{0}, {1}}, 2, 0, nil}, {[][]int{{0}, {1}}, 0, 2, nil}, {[][]int{{0}, {1}}, -1, 0, nil}, {[][]int{{0}, {1}}, 0, -1, nil}, {[][]int{{0}, {1}}, 2, 2, nil}, {[][]int{{0}, {1}, {2}}, 3, 1, nil}, {[][]int{{0}, {1}, {2}}, 1, 3, nil}, {[][]int{{0}, {1}, {2}, {3}}, 4, 3, nil}, {[][]int{{0}, {1}, {2}, {3}}, 3, 4, nil},
		// Piles that together are no packet.
		{[][]int{{0}, {0}}, 0, 0, nil}, {[][]int{{0, 1}, {2, 0}}, 1, 0, nil}, {[][]int{{3}, {-4}}, 0, 1, nil}, {[][]int{{0, 0}, {}}, 1, 1, nil}, {[][]int{{12}, {0}}, 0, 0, nil}, {[][]int{{0}, {-13}}, 0, 0, nil}, {[][]int{{1}, {math.MinInt64}, {2}}, 2, 0, nil}, {[][]int{{1}, {2}, {3}, {math.MaxInt64}}, 1, 2, nil},
		{[][]int{order(12), {0}}, 0, 0, nil}, {[][]int{order(12), {12}}, 0, 0, nil}, {[][]int{order(12), order(12)}, 1, 0, nil}, {[][]int{order(5000), nil}, 0, 0, nil}, {[][]int{{}, repeated(3, 13), {}}, 0, 2, nil},
	} {
		wantGathered(t, c.list, c.chosen, c.place, c.want)
	}
}

// cutPiles returns the packet in count piles of all sizes from 0 on, each way of cutting it once.
func cutPiles(p []int, count int) [][][]int {
	if count == 1 {
		return [][][]int{{p}}
	}
	var ways [][][]int
	for size := range len(p) + 1 {
		for _, rest := range cutPiles(p[size:], count-1) {
			ways = append(ways, append([][]int{p[:size]}, rest...))
		}
	}
	return ways
}

func TestP9GatherPilesOfAllSizes(t *testing.T) {
	for _, n := range []int{0, 1, 2, 5, 8, 12} {
		for _, p := range [][]int{order(n), movePackets(12)[4][:n]} {
			for count := 1; count <= 5; count++ {
				for _, list := range cutPiles(p, count) {
					for chosen := range count {
						for place := range count {
							var want []int
							if count >= 2 && count <= 4 {
								want = gathered(list, chosen, place)
							}
							wantGathered(t, list, chosen, place, want)
						}
					}
				}
			}
		}
	}
}

func TestP9GatherPilesFails(t *testing.T) {
	for count := 2; count <= 4; count++ {
		list := pilesOf(order(12), count)
		for index := range count {
			for _, far := range slices.Concat(outsideOf(count), farNumbers) {
				wantGathered(t, list, far, index, nil)
				wantGathered(t, list, index, far, nil)
				wantGathered(t, list, far, far, nil)
			}
		}
	}
	for _, count := range []int{0, 1, 5, 6, 12, 13, 5000} {
		for _, pile := range [][]int{nil, {}, {0}, {0, 1}} {
			list := slices.Repeat([][]int{nil}, count)
			if count > 0 {
				list[count-1] = pile
			}
			for _, index := range []int{0, 1, 3, count - 1, count, -1} {
				wantGathered(t, list, index, 0, nil)
				wantGathered(t, list, 0, index, nil)
				wantGathered(t, list, index, index, nil)
			}
		}
	}
	// The first two of noPackets are empty, and empty piles make a valid packet.
	for _, p := range slices.Concat(spoiltPackets(), noPackets[2:]) {
		for count := 2; count <= 4; count++ {
			list := make([][]int, count)
			for i, x := range p {
				list[i*count/len(p)] = append(list[i*count/len(p)], x)
			}
			for chosen := range count {
				for place := range count {
					wantGathered(t, list, chosen, place, nil)
				}
			}
		}
	}
}

func TestP9PileRound(t *testing.T) {
	for _, c := range []struct {
		p                  []int
		piles, card, place int
		want               []int
	}{
		{order(6), 3, 0, 1, []int{4, 1, 3, 0, 5, 2}}, {order(6), 3, 3, 1, []int{4, 1, 3, 0, 5, 2}}, {order(6), 3, 1, 1, []int{3, 0, 4, 1, 5, 2}}, {order(6), 3, 5, 0, []int{5, 2, 3, 0, 4, 1}}, {order(6), 3, 5, 2, []int{3, 0, 4, 1, 5, 2}}, {order(6), 2, 4, 1, []int{5, 3, 1, 4, 2, 0}},
		// Piles of one card each.
		{[]int{0, 1}, 2, 0, 0, []int{0, 1}}, {[]int{0, 1}, 2, 0, 1, []int{1, 0}}, {[]int{0, 1}, 2, 1, 0, []int{1, 0}}, {[]int{7, -4, 11}, 3, 3, 2, []int{7, 11, -4}}, {[]int{3, 2, 1, 0}, 4, 0, 0, []int{0, 3, 2, 1}},
		// A card is found on both its sides, and stays on its side.
		{[]int{-1, 5, -8, 2, 9, -4}, 2, 0, 1, []int{-4, 2, 5, 9, -8, -1}}, {[]int{-1, 5, -8, 2, 9, -4}, 2, 3, 0, []int{-4, 2, 5, 9, -8, -1}}, {[]int{-1, 5, -8, 2, 9, -4}, 3, 7, 0, []int{-4, -8, 2, -1, 9, 5}},
		{order(9), 3, 4, 1, []int{6, 3, 0, 7, 4, 1, 8, 5, 2}}, {order(9), 3, 8, 1, []int{6, 3, 0, 8, 5, 2, 7, 4, 1}}, {order(12), 4, 11, 0, []int{11, 7, 3, 8, 4, 0, 9, 5, 1, 10, 6, 2}}, {order(12), 4, 0, 3, []int{9, 5, 1, 10, 6, 2, 11, 7, 3, 8, 4, 0}},
		// A card that no pile has, or that is none.
		{order(6), 3, 6, 1, nil}, {order(6), 3, 7, 1, nil}, {order(6), 3, 11, 1, nil}, {order(6), 3, 12, 1, nil}, {order(6), 3, -1, 1, nil}, {order(6), 3, -2, 0, nil}, {[]int{-1, -2}, 2, -1, 0, nil}, {[]int{-1, -2}, 2, -2, 0, nil}, {[]int{4, 5}, 2, 0, 0, nil}, {[]int{4, 5}, 2, 1, 0, nil},
		// A place that is not the index of a pile.
		{order(6), 3, 0, 3, nil}, {order(6), 3, 0, -1, nil}, {order(6), 2, 0, 2, nil}, {order(8), 4, 0, 4, nil},
		// A packet or a number of piles that does not fit.
		{nil, 2, 0, 0, nil}, {[]int{0}, 1, 0, 0, nil}, {order(5), 2, 0, 0, nil}, {order(6), 4, 0, 0, nil}, {order(6), 1, 0, 0, nil}, {order(6), 0, 0, 0, nil}, {order(6), 6, 0, 0, nil}, {order(10), 5, 0, 0, nil}, {order(14), 2, 0, 0, nil}, {[]int{0, 0}, 2, 0, 0, nil}, {[]int{0, -1}, 2, 0, 1, nil}, {[]int{0, 1, 2, 12}, 2, 0, 0, nil}, {[]int{0, 1, 2, 12}, 2, 12, 0, nil},
	} {
		wantRound(t, c.p, c.piles, c.card, c.place, c.want)
	}
}

func TestP9PileRoundOfManyPackets(t *testing.T) {
	for n := 1; n <= 12; n++ {
		for _, p := range movePackets(n) {
			for _, piles := range []int{1, 2, 3, 4, 5, 6} {
				for card := -3; card <= 13; card++ {
					for place := -2; place <= 6; place++ {
						var want []int
						at := slices.IndexFunc(p, func(x int) bool { c, _ := tableCard(x); return c == card })
						if pilesOk(n, piles) && card >= 0 && at >= 0 && place >= 0 && place < piles {
							want = gathered(pilesOf(p, piles), at%piles, place)
						}
						wantRound(t, p, piles, card, place, want)
					}
				}
			}
		}
	}
}

func TestP9PilesFailForNoPackets(t *testing.T) {
	for _, p := range slices.Concat(spoiltPackets(), noPackets, [][]int{nil, {}}) {
		for piles := 2; piles <= 4; piles++ {
			wantPiles(t, p, piles, nil)
			for _, card := range []int{0, 1, 5, 11, -1, 12} {
				wantRound(t, p, piles, card, 0, nil)
				wantRound(t, p, piles, card, piles-1, nil)
			}
		}
	}
}

func TestP9PileRoundFailsForFarNumbers(t *testing.T) {
	for _, size := range pileSizes {
		p := order(size.n)
		for _, far := range slices.Concat(farNumbers, outsideOf(size.n), noCardElements) {
			wantRound(t, p, size.piles, far, 0, nil)
			wantRound(t, turned(p, 0xfff), size.piles, far, size.piles-1, nil)
		}
		for _, far := range slices.Concat(farNumbers, outsideOf(size.piles)) {
			wantRound(t, p, size.piles, 0, far, nil)
			wantRound(t, p, size.piles, size.n-1, far, nil)
		}
		for _, piles := range noPiles {
			wantRound(t, p, piles, 0, 0, nil)
			wantRound(t, p, piles, size.n-1, piles-1, nil)
		}
	}
}

func TestP9IndexAfter(t *testing.T) {
	for _, c := range []struct{ n, piles, index, place, want int }{
		{2, 2, 0, 0, 0}, {2, 2, 0, 1, 1}, {2, 2, 1, 0, 0}, {2, 2, 1, 1, 1}, {3, 3, 2, 0, 0}, {4, 4, 0, 3, 3}, {4, 2, 0, 0, 1}, {4, 2, 1, 0, 1}, {4, 2, 2, 0, 0}, {4, 2, 3, 1, 2}, {6, 3, 0, 1, 3}, {6, 3, 3, 1, 2}, {6, 3, 5, 2, 4}, {6, 2, 0, 1, 5},
		{9, 3, 0, 1, 5}, {9, 3, 4, 1, 4}, {9, 3, 8, 1, 3}, {9, 3, 8, 0, 0}, {9, 3, 0, 2, 8}, {12, 4, 0, 3, 11}, {12, 4, 11, 0, 0}, {12, 4, 6, 2, 7}, {12, 2, 0, 0, 5}, {12, 2, 11, 1, 6}, {12, 3, 5, 1, 6},
		{6, 3, 6, 1, -1}, {6, 3, -1, 1, -1}, {6, 3, 0, 3, -1}, {6, 3, 0, -1, -1}, {6, 4, 0, 0, -1}, {6, 1, 0, 0, -1}, {6, 6, 0, 0, -1}, {0, 2, 0, 0, -1}, {1, 2, 0, 0, -1}, {2, 3, 0, 0, -1}, {5, 2, 0, 0, -1}, {10, 5, 0, 0, -1}, {14, 2, 0, 0, -1}, {16, 4, 3, 2, -1}, {6, 0, 0, 0, -1}, {-4, 2, 0, 0, -1}, {4, -2, 0, 0, -1}, {0, 0, 0, 0, -1},
	} {
		if got := impl.IndexAfter(c.n, c.piles, c.index, c.place); got != c.want {
			t.Errorf("IndexAfter(%d, %d, %d, %d) = %d, want %d", c.n, c.piles, c.index, c.place, got, c.want)
		}
	}
	eachRound(func(n int, piles int, index int, place int) {
		if got := impl.IndexAfter(n, piles, index, place); got != indexAfter(n, piles, index, place) {
			t.Errorf("IndexAfter(%d, %d, %d, %d) = %d", n, piles, index, place, got)
		}
	})
}

func TestP9RoundsNeededAndFixedIndex(t *testing.T) {
	for _, c := range []struct{ n, piles, place, rounds, index int }{
		// Piles of one card each: one round puts it at its place.
		{2, 2, 0, 1, 0}, {2, 2, 1, 1, 1}, {3, 3, 0, 1, 0}, {3, 3, 1, 1, 1}, {3, 3, 2, 1, 2}, {4, 4, 0, 1, 0}, {4, 4, 1, 1, 1}, {4, 4, 2, 1, 2}, {4, 4, 3, 1, 3},
		{4, 2, 0, 2, 1}, {4, 2, 1, 2, 2}, {6, 3, 0, 2, 1}, {6, 3, 2, 2, 4}, {8, 2, 0, 3, 2}, {8, 2, 1, 3, 5}, {8, 4, 0, 2, 1}, {8, 4, 1, 2, 3}, {8, 4, 2, 2, 4}, {8, 4, 3, 2, 6},
		{9, 3, 0, 2, 2}, {9, 3, 1, 2, 4}, {9, 3, 2, 2, 6}, {10, 2, 0, 4, 3}, {10, 2, 1, 4, 6}, {12, 4, 0, 2, 2}, {12, 4, 1, 3, 4}, {12, 4, 2, 3, 7}, {12, 4, 3, 2, 9},
		// No number of rounds is enough: two cards change their places again and again.
		{6, 2, 0, -1, -1}, {6, 2, 1, -1, -1}, {6, 3, 1, -1, -1}, {12, 2, 0, -1, -1}, {12, 2, 1, -1, -1}, {12, 3, 0, -1, -1}, {12, 3, 1, -1, -1}, {12, 3, 2, -1, -1},
		{9, 2, 1, -1, -1}, {9, 3, 3, -1, -1}, {9, 3, -1, -1, -1}, {4, 2, 2, -1, -1}, {4, 4, 4, -1, -1}, {1, 1, 0, -1, -1}, {1, 2, 0, -1, -1}, {2, 1, 0, -1, -1}, {4, 1, 0, -1, -1}, {0, 2, 0, -1, -1}, {0, 0, 0, -1, -1}, {5, 5, 0, -1, -1}, {6, 4, 0, -1, -1}, {14, 2, 0, -1, -1}, {15, 3, 1, -1, -1}, {16, 4, 1, -1, -1}, {27, 3, 1, -1, -1}, {-4, 2, 0, -1, -1}, {4, -2, 0, -1, -1},
	} {
		rounds, index := impl.RoundsNeeded(c.n, c.piles, c.place), impl.FixedIndex(c.n, c.piles, c.place)
		if rounds != c.rounds || index != c.index {
			t.Errorf("RoundsNeeded(%d, %d, %d) = %d and FixedIndex %d, want %d and %d", c.n, c.piles, c.place, rounds, index, c.rounds, c.index)
		}
	}
	for _, size := range pileSizes {
		for place := range size.piles {
			wantRounds, wantIndex := meetingOf(size.n, size.piles, place)
			rounds, index := impl.RoundsNeeded(size.n, size.piles, place), impl.FixedIndex(size.n, size.piles, place)
			if rounds != wantRounds || index != wantIndex {
				t.Errorf("RoundsNeeded(%d, %d, %d) = %d and FixedIndex %d, want %d and %d", size.n, size.piles, place, rounds, index, wantRounds, wantIndex)
			}
			// Two or more cards have different indices before the first round.
			if rounds == 0 {
				t.Errorf("no rounds are needed for %d cards, %d piles and the place %d", size.n, size.piles, place)
			}
		}
	}
}

func TestP9PlacesFor(t *testing.T) {
	for _, c := range []struct {
		n, piles, index, target int
		want                    []int
	}{
		// The index is the target already.
		{6, 3, 2, 2, []int{}}, {2, 2, 0, 0, []int{}}, {2, 2, 1, 1, []int{}}, {12, 4, 11, 11, []int{}}, {12, 2, 0, 0, []int{}}, {9, 3, 4, 4, []int{}},
		{6, 3, 0, 4, []int{1, 2}}, {2, 2, 0, 1, []int{1}}, {2, 2, 1, 0, []int{0}}, {3, 3, 0, 2, []int{2}}, {4, 4, 3, 1, []int{1}}, {6, 3, 0, 3, []int{1}}, {6, 3, 0, 1, []int{0}}, {6, 3, 0, 2, []int{1, 1}}, {6, 3, 1, 0, []int{1, 0}},
		{4, 2, 1, 0, []int{1, 0}}, {4, 2, 0, 3, []int{1}}, {4, 2, 3, 1, []int{0, 0}}, {4, 2, 3, 2, []int{1}}, {9, 3, 8, 4, []int{1, 1}}, {9, 3, 8, 3, []int{1}}, {9, 3, 0, 8, []int{2}}, {9, 3, 0, 7, []int{1, 2}}, {9, 3, 0, 6, []int{2, 2}}, {12, 4, 0, 11, []int{3}}, {12, 4, 11, 0, []int{0}}, {12, 4, 5, 0, []int{3, 0}},
		// An index or a target from n on or below 0.
		{6, 3, 6, 0, nil}, {6, 3, 0, 6, nil}, {6, 3, -1, 0, nil}, {6, 3, 0, -1, nil}, {6, 3, 6, 6, nil}, {6, 3, -1, -1, nil}, {12, 4, 12, 12, nil}, {12, 4, 0, 12, nil}, {2, 2, 2, 1, nil},
		// No such piles.
		{0, 2, 0, 0, nil}, {1, 1, 0, 0, nil}, {1, 2, 0, 0, nil}, {2, 3, 0, 0, nil}, {4, 1, 0, 0, nil}, {4, 0, 1, 1, nil}, {5, 2, 3, 3, nil}, {5, 5, 0, 0, nil}, {6, 4, 0, 0, nil}, {10, 5, 0, 1, nil}, {14, 2, 1, 2, nil}, {16, 4, 3, 3, nil}, {-4, 2, -1, -1, nil}, {4, -2, 1, 1, nil},
	} {
		wantPlaces(t, c.n, c.piles, c.index, c.target, c.want)
	}
	for _, size := range pileSizes {
		for index := range size.n {
			for target := range size.n {
				// There is no target that no list of places reaches.
				want := firstPlaces(size.n, size.piles, index, target)
				if want == nil {
					t.Fatalf("with %d cards and %d piles, no short list leads from %d to %d", size.n, size.piles, index, target)
				}
				wantPlaces(t, size.n, size.piles, index, target, want)
			}
		}
	}
}

// wantNoRounds checks the functions of rounds for numbers of which one is out of range.
func wantNoRounds(t *testing.T, n int, piles int, place int) {
	t.Helper()
	if rounds, index := impl.RoundsNeeded(n, piles, place), impl.FixedIndex(n, piles, place); rounds != -1 || index != -1 {
		t.Errorf("RoundsNeeded(%d, %d, %d) = %d and FixedIndex %d", n, piles, place, rounds, index)
	}
	for _, index := range []int{0, 1, n - 1, place} {
		if got := impl.IndexAfter(n, piles, index, place); got != -1 {
			t.Errorf("IndexAfter(%d, %d, %d, %d) = %d", n, piles, index, place, got)
		}
	}
}

func TestP9RoundsFailForFarNumbers(t *testing.T) {
	numbers := slices.Concat(ascending(0, 17, 1), []int{-4, -6, 1 << 33, 1<<32 + 4, math.MinInt64 + 2}, farNumbers)
	for _, n := range numbers {
		for _, piles := range numbers {
			if pilesOk(n, piles) {
				continue
			}
			for _, place := range []int{0, 1, 2, piles - 1, -1} {
				wantNoRounds(t, n, piles, place)
			}
			for _, index := range []int{0, 1, n - 1, n, -1} {
				wantPlaces(t, n, piles, index, 0, nil)
				wantPlaces(t, n, piles, 0, index, nil)
				wantPlaces(t, n, piles, index, index, nil)
			}
		}
	}
	for _, size := range pileSizes {
		for _, place := range slices.Concat(outsideOf(size.piles), farNumbers) {
			wantNoRounds(t, size.n, size.piles, place)
		}
		for _, far := range slices.Concat(outsideOf(size.n), farNumbers) {
			for place := range size.piles {
				if got := impl.IndexAfter(size.n, size.piles, far, place); got != -1 {
					t.Errorf("IndexAfter(%d, %d, %d, %d) = %d", size.n, size.piles, far, place, got)
				}
			}
			for index := range size.n {
				wantPlaces(t, size.n, size.piles, far, index, nil)
				wantPlaces(t, size.n, size.piles, index, far, nil)
			}
			wantPlaces(t, size.n, size.piles, far, far, nil)
		}
	}
}

func TestP9PilesAreNew(t *testing.T) {
	for _, size := range pileSizes {
		n, piles := size.n, size.piles
		for _, from := range movePackets(n) {
			behind := append(slices.Clone(from), 97, 98, 99)
			p := behind[:n]
			for at, x := range from {
				card := impl.CardOf(x)
				for place := range piles {
					list := impl.PilesOf(p, piles)
					if !sameLists(list, pilesOf(from, piles)) {
						t.Fatalf("PilesOf(%v, %d) = %v", from, piles, list)
					}
					want := gathered(list, at%piles, place)
					packet, ok := impl.GatherPiles(list, at%piles, place)
					wantPerm(t, fmt.Sprintf("the packet of %v", list), packet, ok, want)
					round, ok := impl.PileRound(p, piles, card, place)
					wantPerm(t, fmt.Sprintf("the packet after %v", from), round, ok, want)
					wantList := firstPlaces(n, piles, at, n-1)
					places, ok := impl.PlacesFor(n, piles, at, n-1)
					wantPerm(t, fmt.Sprintf("the places for %d", at), places, ok, wantList)
					again, ok := impl.PlacesFor(n, piles, at, n-1)
					wantPerm(t, fmt.Sprintf("the places for %d once more", at), again, ok, wantList)
					spoil(t, "piles and packets", slices.Concat([][]int{packet, round, places, again}, list))
					if want := append(slices.Clone(from), 97, 98, 99); !slices.Equal(behind, want) {
						t.Fatalf("%v has become %v", want, behind)
					}
				}
			}
		}
	}
}

func TestP9GatheredPilesAreNotChanged(t *testing.T) {
	for count := 2; count <= 4; count++ {
		for chosen := range count {
			for place := range count {
				// The piles lie one behind the other in one list, and behind the last one are elements that are no cards.
				cards := append(order(12), 97, 98, 99)
				list := make([][]int, 0, 9)
				size := 12 / count
				for i := range count {
					list = append(list, cards[i*size:(i+1)*size])
				}
				want := gathered(list, chosen, place)
				before := slices.Clone(list)
				for range 2 {
					got, ok := impl.GatherPiles(list, chosen, place)
					wantPerm(t, fmt.Sprintf("GatherPiles(%v, %d, %d)", list, chosen, place), got, ok, want)
					spoil(t, "packets", [][]int{got})
					if !slices.Equal(cards, append(order(12), 97, 98, 99)) || !sameLists(list, before) || list[:9][count] != nil {
						t.Fatalf("%v and %v have become %v and %v", order(12), before, cards, list)
					}
				}
				// Where it fails, nothing is changed either.
				cards[11] = 0
				impl.GatherPiles(list, chosen, place)
				impl.GatherPiles(list, chosen, count)
				if !slices.Equal(cards, append(order(11), 0, 97, 98, 99)) || list[:9][count] != nil {
					t.Fatalf("the piles have become %v in %v", list, cards)
				}
			}
		}
	}
}

func TestP9PilesAtTheSameTime(t *testing.T) {
	var group sync.WaitGroup
	for worker := range 8 {
		group.Go(func() {
			for i := range pileSizes {
				size := pileSizes[(i+worker)%len(pileSizes)]
				p := movePackets(size.n)[4]
				for index := range size.n {
					place := (worker + index) % size.piles
					card, _ := tableCard(p[index])
					wantRound(t, p, size.piles, card, place, gathered(pilesOf(p, size.piles), index%size.piles, place))
					wantPlaces(t, size.n, size.piles, index, place, firstPlaces(size.n, size.piles, index, place))
				}
			}
		})
	}
	group.Wait()
}
