package tests

import (
	"fmt"
	"math"
	"slices"
	"sync"
	"testing"

	"loop.example/g00846/impl"
)

// noDuckSizes are numbers of cards with which there is no ducking deal.
var noDuckSizes = slices.Concat([]int{0, 15, 16, 26, 52, 64, 1<<32 + 2, 1<<32 + 8, 1<<32 + 12, -4, -8, -16, math.MinInt64 + 8, math.MinInt64 + 12}, farNumbers)

// duckDeals are the orders in which cards are dealt, for K 0 and K 1, with as many cards as the index says.
var duckDeals = [][2][]int{
	1:  {{0}, {0}},
	2:  {{1, 0}, {0, 1}},
	3:  {{1, 0, 2}, {0, 2, 1}},
	4:  {{1, 3, 2, 0}, {0, 2, 1, 3}},
	5:  {{1, 3, 0, 4, 2}, {0, 2, 4, 3, 1}},
	6:  {{1, 3, 5, 2, 0, 4}, {0, 2, 4, 1, 5, 3}},
	7:  {{1, 3, 5, 0, 4, 2, 6}, {0, 2, 4, 6, 3, 1, 5}},
	8:  {{1, 3, 5, 7, 2, 6, 4, 0}, {0, 2, 4, 6, 1, 5, 3, 7}},
	9:  {{1, 3, 5, 7, 0, 4, 8, 6, 2}, {0, 2, 4, 6, 8, 3, 7, 5, 1}},
	10: {{1, 3, 5, 7, 9, 2, 6, 0, 8, 4}, {0, 2, 4, 6, 8, 1, 5, 9, 7, 3}},
	11: {{1, 3, 5, 7, 9, 0, 4, 8, 2, 10, 6}, {0, 2, 4, 6, 8, 10, 3, 7, 1, 9, 5}},
	12: {{1, 3, 5, 7, 9, 11, 2, 6, 10, 4, 0, 8}, {0, 2, 4, 6, 8, 10, 1, 5, 9, 3, 11, 7}},
}

// duckedBy returns the packet after a ducking deal, or nil if it fails.
func duckedBy(p []int, k int) []int {
	q, ok := impl.Perform(p, impl.Move{Kind: impl.MvDuck, K: k})
	if !ok {
		return nil
	}
	return q
}

// undealt returns the packet whose ducking deal gives p, by taking back each step, the last one first: a card that was dealt
// comes from the table to the top, and a card that was put to the end comes from there to the top.
func undealt(p []int, k int) []int {
	left := slices.Clone(p[:1])
	for i, x := range p[1:] {
		// Before each card that was dealt, one was put to the end, but not before the first one for K 1.
		left = append([]int{x}, left...)
		if k == 0 || i < len(p)-2 {
			end := len(left) - 1
			left = append([]int{left[end]}, left[:end]...)
		}
	}
	return left
}

func TestP5TheCardAtLastIndexIsTheTopCardAfterwards(t *testing.T) {
	for n := 1; n <= 12; n++ {
		for k := range 2 {
			last := impl.LastIndex(n, k)
			if last < 0 || last >= n {
				t.Fatalf("LastIndex(%d, %d) = %d", n, k, last)
			}
			for _, p := range movePackets(n) {
				if q := duckedBy(p, k); len(q) != n || q[0] != p[last] {
					t.Errorf("LastIndex(%d, %d) = %d, but %v becomes %v", n, k, last, p, q)
				}
			}
		}
	}
}

func TestP5LastByPowerIsTheLastIndex(t *testing.T) {
	for n := -20; n <= 40; n++ {
		for k := -3; k <= 4; k++ {
			if last, power := impl.LastIndex(n, k), impl.LastByPower(n, k); last != power {
				t.Errorf("LastIndex(%d, %d) = %d, but LastByPower = %d", n, k, last, power)
			}
		}
	}
}

func TestP5DealOrderIsTheOrderOfTheDeal(t *testing.T) {
	for n := 1; n <= 12; n++ {
		for k := range 2 {
			dealt := impl.DealOrder(n, k)
			if !impl.PermOk(dealt) || len(dealt) != n || dealt[n-1] != impl.LastIndex(n, k) {
				t.Fatalf("DealOrder(%d, %d) = %v", n, k, dealt)
			}
			for _, p := range movePackets(n) {
				// The card dealt first lies at the bottom.
				q := duckedBy(p, k)
				slices.Reverse(q)
				if !slices.Equal(q, performed(p, dealt)) {
					t.Errorf("DealOrder(%d, %d) = %v, but %v becomes, from the bottom, %v", n, k, dealt, p, q)
				}
			}
		}
	}
}

func TestP5ThePreparedPacketIsDealtToTheWantedOne(t *testing.T) {
	for n := 1; n <= 12; n++ {
		for k := range 2 {
			for _, p := range movePackets(n) {
				before, ok := impl.PrepareDuck(p, k)
				if q := duckedBy(before, k); !ok || !slices.Equal(q, p) {
					t.Errorf("PrepareDuck(%v, %d) = %v, %t, which becomes %v", p, k, before, ok, q)
				}
				again, ok := impl.PrepareDuck(duckedBy(p, k), k)
				wantPerm(t, fmt.Sprintf("PrepareDuck for the deal %d of %v", k, p), again, ok, p)
			}
		}
	}
	for _, p := range listsOver(fewElements, 4) {
		for k := range 2 {
			if before, ok := impl.PrepareDuck(p, k); ok && !slices.Equal(duckedBy(before, k), p) {
				t.Errorf("PrepareDuck(%v, %d) = %v, which becomes %v", p, k, before, duckedBy(before, k))
			}
		}
	}
}

func TestP5EachRoundDealsAboutHalfOfTheCards(t *testing.T) {
	for n := 1; n <= 12; n++ {
		rounds := 0
		for left := n; left > 1; left /= 2 {
			rounds++
		}
		if got := impl.RoundsOf(n); got != rounds {
			t.Errorf("RoundsOf(%d) = %d, want %d", n, got, rounds)
		}
	}
}

func TestP9LastIndexAndLastByPower(t *testing.T) {
	for n, want := range [][2]int{1: {0, 0}, 2: {0, 1}, 3: {2, 1}, 4: {0, 3}, 5: {2, 1}, 6: {4, 3}, 7: {6, 5}, 8: {0, 7}, 9: {2, 1}, 10: {4, 3}, 11: {6, 5}, 12: {8, 7}} {
		if n == 0 {
			want = [2]int{-1, -1}
		}
		for k := range 2 {
			if last, power := impl.LastIndex(n, k), impl.LastByPower(n, k); last != want[k] || power != want[k] {
				t.Errorf("the last index of %d cards for K %d is %d and %d, want %d", n, k, last, power, want[k])
			}
		}
	}
}

func TestP9DealOrder(t *testing.T) {
	for n := 1; n <= 12; n++ {
		for k := range 2 {
			got := impl.DealOrder(n, k)
			circle := duckOrder(n, k)
			slices.Reverse(circle)
			if !slices.Equal(got, duckDeals[n][k]) || !slices.Equal(got, circle) {
				t.Errorf("DealOrder(%d, %d) = %v, want %v and %v", n, k, got, duckDeals[n][k], circle)
			}
		}
	}
}

func TestP9RoundsOf(t *testing.T) {
	for n, want := range []int{-1, 0, 1, 1, 2, 2, 2, 2, 3, 3, 3, 3, 3, -1, -1, -1, -1} {
		if got := impl.RoundsOf(n); got != want {
			t.Errorf("RoundsOf(%d) = %d, want %d", n, got, want)
		}
	}
	for _, n := range noDuckSizes {
		if got := impl.RoundsOf(n); got != -1 {
			t.Errorf("RoundsOf(%d) = %d", n, got)
		}
	}
}

// wantNoDuck checks the functions of a number of cards and a K that do not fit.
func wantNoDuck(t *testing.T, n int, k int) {
	t.Helper()
	if got := impl.LastIndex(n, k); got != -1 {
		t.Errorf("LastIndex(%d, %d) = %d", n, k, got)
	}
	if got := impl.LastByPower(n, k); got != -1 {
		t.Errorf("LastByPower(%d, %d) = %d", n, k, got)
	}
	if got := impl.DealOrder(n, k); len(got) != 0 {
		t.Errorf("DealOrder(%d, %d) = %v", n, k, got)
	}
}

func TestP9DuckingDealsFail(t *testing.T) {
	for _, n := range noDuckSizes {
		for _, k := range append([]int{0, 1}, noShuffles...) {
			wantNoDuck(t, n, k)
		}
	}
	for n := 1; n <= 12; n++ {
		for _, k := range noShuffles {
			wantNoDuck(t, n, k)
		}
	}
}

func TestP9PrepareDuck(t *testing.T) {
	for _, c := range []struct {
		k       int
		p, want []int
	}{
		{0, []int{0, 1, 2, 3, 4}, []int{2, 4, 0, 3, 1}}, {1, []int{0, 1, 2, 3, 4}, []int{4, 0, 3, 1, 2}}, {0, []int{-1, 4, -3, 3, 1}, []int{-3, 1, -1, 3, 4}}, {1, []int{-1, 4, -3, 3, 1}, []int{1, -1, 3, 4, -3}},
		{0, []int{7}, []int{7}}, {1, []int{7}, []int{7}}, {0, []int{-8}, []int{-8}}, {1, []int{-8}, []int{-8}}, {0, []int{5, -8}, []int{5, -8}}, {1, []int{5, -8}, []int{-8, 5}},
		{0, []int{0, 1, 2}, []int{1, 2, 0}}, {1, []int{0, 1, 2}, []int{2, 0, 1}}, {0, []int{0, 1, 2, 3}, []int{0, 3, 1, 2}}, {1, []int{0, 1, 2, 3}, []int{3, 1, 2, 0}},
		{0, []int{8, 0, 4, 10, 6, 2, 11, 9, 7, 5, 3, 1}, order(12)}, {1, []int{7, 11, 3, 9, 5, 1, 10, 8, 6, 4, 2, 0}, order(12)}, {0, []int{-9, -1, -5, -11, -7, -3, -12, -10, -8, -6, -4, -2}, upElements},
		{0, nil, nil}, {1, []int{}, nil}, {2, []int{7}, nil}, {-1, []int{7}, nil}, {0, []int{12}, nil}, {1, []int{-13, 0}, nil}, {0, []int{3, 3}, nil}, {0, []int{3, 4, -4}, nil}, {1, order(13), nil}, {2, nil, nil},
	} {
		got, ok := impl.PrepareDuck(c.p, c.k)
		wantPerm(t, fmt.Sprintf("PrepareDuck(%v, %d)", c.p, c.k), got, ok, c.want)
	}
	for n := 1; n <= 12; n++ {
		for _, p := range movePackets(n) {
			for k := range 2 {
				got, ok := impl.PrepareDuck(p, k)
				wantPerm(t, fmt.Sprintf("PrepareDuck(%v, %d)", p, k), got, ok, undealt(p, k))
			}
		}
	}
}

func TestP9PrepareDuckOfFewElements(t *testing.T) {
	for _, p := range listsOver(fewElements, 3) {
		for k := -1; k <= 2; k++ {
			var want []int
			if len(p) > 0 && tableOk(p) && (k == 0 || k == 1) {
				want = undealt(p, k)
			}
			got, ok := impl.PrepareDuck(p, k)
			wantPerm(t, fmt.Sprintf("PrepareDuck(%v, %d)", p, k), got, ok, want)
		}
	}
}

func TestP9PrepareDuckFails(t *testing.T) {
	for _, p := range noPackets {
		for _, k := range append([]int{0, 1}, noShuffles...) {
			got, ok := impl.PrepareDuck(p, k)
			wantPerm(t, fmt.Sprintf("PrepareDuck(%v, %d)", p, k), got, ok, nil)
		}
	}
	for n := 1; n <= 12; n++ {
		for _, p := range movePackets(n) {
			for _, k := range noShuffles {
				got, ok := impl.PrepareDuck(p, k)
				wantPerm(t, fmt.Sprintf("PrepareDuck(%v, %d)", p, k), got, ok, nil)
			}
			for _, x := range noCardElements {
				for i := range n {
					bad := slices.Clone(p)
					bad[i] = x
					got, ok := impl.PrepareDuck(bad, i%2)
					wantPerm(t, fmt.Sprintf("PrepareDuck(%v, %d)", bad, i%2), got, ok, nil)
				}
			}
		}
	}
}

func TestP9DuckingDealsAreNew(t *testing.T) {
	for n := 1; n <= 12; n++ {
		for i := range 2 {
			var results [][]int
			for k := range 2 {
				dealt := impl.DealOrder(n, k)
				before, ok := impl.PrepareDuck(upElements[:n], k)
				wantPerm(t, fmt.Sprintf("DealOrder(%d, %d) at call %d", n, k, i), dealt, true, duckDeals[n][k])
				wantPerm(t, fmt.Sprintf("PrepareDuck of %d cards for K %d at call %d", n, k, i), before, ok, undealt(upElements[:n], k))
				results = append(results, dealt, before)
			}
			spoil(t, "ducking deals", results)
		}
	}
}

func TestP9PrepareDuckDoesNotChangeItsArgument(t *testing.T) {
	for n := range 13 {
		for k := -1; k <= 2; k++ {
			var want []int
			if n > 0 && (k == 0 || k == 1) {
				want = undealt(upElements[:n], k)
			}
			behind := append(slices.Clone(upElements[:n]), 97, 98, 99)
			before := slices.Clone(behind)
			for i := range 2 {
				got, ok := impl.PrepareDuck(behind[:n], k)
				wantPerm(t, fmt.Sprintf("PrepareDuck of %d cards for K %d at call %d", n, k, i), got, ok, want)
				spoil(t, "packets", [][]int{got})
				if !slices.Equal(behind, before) {
					t.Fatalf("%v has become %v", before, behind)
				}
			}
		}
	}
}

func TestP9DuckingDealsAtTheSameTime(t *testing.T) {
	var group sync.WaitGroup
	for worker := range 8 {
		group.Go(func() {
			for i := range 1200 {
				n, k := (worker+i)%12+1, i/12%2
				last := duckDeals[n][k][n-1]
				if got := impl.DealOrder(n, k); !slices.Equal(got, duckDeals[n][k]) {
					t.Errorf("DealOrder(%d, %d) = %v", n, k, got)
				}
				if index, power := impl.LastIndex(n, k), impl.LastByPower(n, k); index != last || power != last {
					t.Errorf("the last index of %d cards for K %d is %d and %d", n, k, index, power)
				}
			}
		})
	}
	group.Wait()
}
