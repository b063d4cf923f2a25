package tests

import (
	"fmt"
	"math"
	"slices"
	"testing"

	"loop.example/g00846/impl"
)

// faroSizes are the numbers of cards that can be shuffled perfectly.
var faroSizes = []int{2, 4, 6, 8, 10, 12}

// noFaroSizes are numbers of cards that cannot.
var noFaroSizes = slices.Concat([]int{0, 1, 3, 5, 7, 9, 11, 13, 14, 15, 16, 26, 52, 1<<32 + 2, 1<<32 + 4, -4, -6, -8, math.MinInt64 + 2}, farNumbers)

// noShuffles are numbers that are neither the out nor the in shuffle.
var noShuffles = slices.Concat([]int{2, 3, 4, 10, 11, 12}, farNumbers)

// shuffled returns the list after perfect shuffles, by the rule for each index that faroOrder has.
func shuffled(p []int, list []int) []int {
	q := slices.Clone(p)
	for _, k := range list {
		q = performed(q, faroOrder(len(p), k))
	}
	return q
}

// shuffleLists returns all lists of length shuffles in lexicographic order.
func shuffleLists(length int) [][]int {
	lists := make([][]int, 1<<length)
	for number := range lists {
		for digit := length - 1; digit >= 0; digit-- {
			lists[number] = append(lists[number], number>>digit&1)
		}
	}
	return lists
}

// shuffleDigits returns the binary digits of a number, beginning with the highest one.
func shuffleDigits(at int) []int {
	var digits []int
	for ; at > 0; at /= 2 {
		digits = append([]int{at % 2}, digits...)
	}
	return digits
}

// firstShuffles tries shorter lists before longer ones, and lists of equal length in lexicographic order, until one brings
// the card at index from to index to.
func firstShuffles(n int, from int, to int) []int {
	for length := 0; ; length++ {
		for _, list := range shuffleLists(length) {
			if shuffled(order(n), list)[to] == from {
				return append([]int{}, list...)
			}
		}
	}
}

// faroGroup returns, as texts, the permutations that sequences of perfect shuffles give.
func faroGroup(n int) map[string]bool {
	group := map[string]bool{fmt.Sprint(order(n)): true}
	for last := [][]int{order(n)}; len(last) > 0; {
		var found [][]int
		for _, a := range last {
			for k := range 2 {
				b := shuffled(a, []int{k})
				if text := fmt.Sprint(b); !group[text] {
					group[text] = true
					found = append(found, b)
				}
			}
		}
		last = found
	}
	return group
}

// central reports whether in a permutation the cards that lie symmetrically come from positions that did.
func central(a []int) bool {
	back := slices.Clone(a)
	slices.Reverse(back)
	for i, x := range a {
		if back[i] != len(a)-1-x {
			return false
		}
	}
	return true
}

func TestP4FaroToBringsTheTopCardToEachIndex(t *testing.T) {
	for _, n := range faroSizes {
		for at := range n {
			list, ok := impl.FaroTo(n, at)
			p, run := impl.FaroRun(impl.NewPacket(n), list)
			if !ok || !run || p[at] != 0 || !slices.Equal(p, shuffled(order(n), list)) {
				t.Errorf("FaroTo(%d, %d) = %v, %t, which gives %v, %t", n, at, list, ok, p, run)
			}
			if at > 0 && (len(list) == 0 || list[0] != 1) {
				t.Errorf("FaroTo(%d, %d) = %v begins with a zero", n, at, list)
			}
		}
	}
}

func TestP4ShortestFaroBringsEachCardToEachIndex(t *testing.T) {
	for _, n := range faroSizes {
		for from := range n {
			for to := range n {
				list, ok := impl.ShortestFaro(n, from, to)
				wantPerm(t, fmt.Sprintf("ShortestFaro(%d, %d, %d)", n, from, to), list, ok, firstShuffles(n, from, to))
				p, run := impl.FaroRun(impl.NewPacket(n), list)
				if !run || p[to] != from {
					t.Errorf("ShortestFaro(%d, %d, %d) = %v, which gives %v", n, from, to, list, p)
				}
			}
		}
	}
}

func TestP4NoShorterAndNoLexicographicallySmallerList(t *testing.T) {
	for _, n := range faroSizes {
		for from := range n {
			for to := range n {
				short, _ := impl.ShortestFaro(n, from, to)
				if from == 0 {
					if digits, _ := impl.FaroTo(n, to); len(digits) < len(short) {
						t.Errorf("ShortestFaro(%d, 0, %d) = %v, but FaroTo is %v", n, to, short, digits)
					}
				}
				for length := 0; length <= len(short); length++ {
					for _, list := range shuffleLists(length) {
						p, ok := impl.FaroRun(impl.NewPacket(n), list)
						if !ok {
							t.Fatalf("FaroRun fails for %d cards and %v", n, list)
						}
						if p[to] == from && (len(list) < len(short) || slices.Compare(list, short) < 0) {
							t.Errorf("ShortestFaro(%d, %d, %d) = %v, but %v is enough", n, from, to, short, list)
						}
					}
				}
			}
		}
	}
}

func TestP4GroupsBringEachCardToEachIndex(t *testing.T) {
	for n := 2; n <= 8; n += 2 {
		group := faroGroup(n)
		if got := impl.FaroGroup(n); got != len(group) {
			t.Errorf("FaroGroup(%d) = %d, want %d", n, got, len(group))
		}
		for _, a := range permsOf(n) {
			if group[fmt.Sprint(a)] && !impl.IsCentral(a) {
				t.Errorf("IsCentral(%v) is false, but perfect shuffles give it", a)
			}
		}
		for from := range n {
			for to := range n {
				list, _ := impl.ShortestFaro(n, from, to)
				if p, _ := impl.FaroRun(impl.NewPacket(n), list); !group[fmt.Sprint(p)] {
					t.Errorf("%v by %v is not in the group", p, list)
				}
			}
		}
	}
}

func TestP4PerfectShufflesAreCentral(t *testing.T) {
	for _, n := range faroSizes {
		for length := range 8 {
			for _, list := range shuffleLists(length) {
				a, ok := impl.FaroRun(impl.NewPacket(n), list)
				if !ok || !impl.IsCentral(a) {
					t.Errorf("IsCentral is false for %v, which %v gives", a, list)
				}
			}
		}
	}
}

func TestP4EqualShufflesBringEveryCardBack(t *testing.T) {
	for _, n := range faroSizes {
		for k := range 2 {
			count := impl.FaroOrder(n, k)
			if count < 1 || count > impl.MaxMoves {
				t.Fatalf("FaroOrder(%d, %d) = %d", n, k, count)
			}
			for fewer := 1; fewer <= count; fewer++ {
				p, ok := impl.FaroRun(impl.NewPacket(n), repeated(k, fewer))
				if !ok || slices.Equal(p, order(n)) != (fewer == count) {
					t.Errorf("FaroOrder(%d, %d) = %d, but %d shuffles give %v", n, k, count, fewer, p)
				}
			}
		}
	}
}

func TestP9FaroPerm(t *testing.T) {
	for _, c := range []struct {
		n, k int
		want []int
	}{
		{2, 0, []int{0, 1}}, {2, 1, []int{1, 0}}, {4, 0, []int{0, 2, 1, 3}}, {4, 1, []int{2, 0, 3, 1}}, {6, 0, []int{0, 3, 1, 4, 2, 5}}, {6, 1, []int{3, 0, 4, 1, 5, 2}},
		{8, 0, []int{0, 4, 1, 5, 2, 6, 3, 7}}, {8, 1, []int{4, 0, 5, 1, 6, 2, 7, 3}}, {10, 0, []int{0, 5, 1, 6, 2, 7, 3, 8, 4, 9}}, {10, 1, []int{5, 0, 6, 1, 7, 2, 8, 3, 9, 4}},
		{12, 0, []int{0, 6, 1, 7, 2, 8, 3, 9, 4, 10, 5, 11}}, {12, 1, []int{6, 0, 7, 1, 8, 2, 9, 3, 10, 4, 11, 5}},
		{1, 0, nil}, {3, 0, nil}, {5, 0, nil}, {5, 1, nil}, {11, 1, nil}, {0, 0, nil}, {0, 1, nil}, {14, 0, nil}, {-2, 0, nil}, {4, 2, nil}, {4, -1, nil}, {12, 2, nil}, {5, 2, nil},
	} {
		got, ok := impl.FaroPerm(c.n, c.k)
		wantPerm(t, fmt.Sprintf("FaroPerm(%d, %d)", c.n, c.k), got, ok, c.want)
	}
	for _, n := range faroSizes {
		for k := range 2 {
			got, ok := impl.FaroPerm(n, k)
			wantPerm(t, fmt.Sprintf("FaroPerm(%d, %d)", n, k), got, ok, faroOrder(n, k))
			move, _ := impl.PermOfMove(n, impl.Move{Kind: impl.MvFaro, K: k})
			wantPerm(t, fmt.Sprintf("FaroPerm(%d, %d)", n, k), got, ok, move)
		}
	}
}

func TestP9FaroOrder(t *testing.T) {
	for _, c := range []struct{ n, out, in int }{{2, 1, 2}, {4, 2, 4}, {6, 4, 3}, {8, 3, 6}, {10, 6, 10}, {12, 10, 12}} {
		if out, in := impl.FaroOrder(c.n, 0), impl.FaroOrder(c.n, 1); out != c.out || in != c.in {
			t.Errorf("FaroOrder of %d cards is %d and %d, want %d and %d", c.n, out, in, c.out, c.in)
		}
	}
}

func TestP9FaroPermAndFaroOrderFail(t *testing.T) {
	for _, n := range noFaroSizes {
		for _, k := range append([]int{0, 1}, noShuffles...) {
			wantNoShuffle(t, n, k)
		}
	}
	for _, n := range faroSizes {
		for _, k := range noShuffles {
			wantNoShuffle(t, n, k)
		}
	}
}

// wantNoShuffle checks FaroPerm and FaroOrder for a number of cards or a kind of shuffle for which there is none.
func wantNoShuffle(t *testing.T, n int, k int) {
	t.Helper()
	got, ok := impl.FaroPerm(n, k)
	wantPerm(t, fmt.Sprintf("FaroPerm(%d, %d)", n, k), got, ok, nil)
	if got := impl.FaroOrder(n, k); got != 0 {
		t.Errorf("FaroOrder(%d, %d) = %d", n, k, got)
	}
}

func TestP9FaroTo(t *testing.T) {
	for _, c := range []struct {
		n, at int
		want  []int
	}{
		{2, 0, []int{}}, {2, 1, []int{1}}, {2, 2, nil}, {4, 0, []int{}}, {4, 1, []int{1}}, {4, 2, []int{1, 0}}, {4, 3, []int{1, 1}}, {4, 4, nil}, {4, -1, nil}, {6, 4, []int{1, 0, 0}}, {6, 5, []int{1, 0, 1}},
		{8, 7, []int{1, 1, 1}}, {10, 5, []int{1, 0, 1}}, {10, 8, []int{1, 0, 0, 0}}, {10, 9, []int{1, 0, 0, 1}}, {10, 10, nil}, {12, 0, []int{}}, {12, 6, []int{1, 1, 0}}, {12, 11, []int{1, 0, 1, 1}},
		{12, 12, nil}, {0, 0, nil}, {1, 0, nil}, {3, 0, nil}, {3, 1, nil}, {11, 5, nil}, {13, 5, nil}, {14, 0, nil}, {14, 13, nil}, {16, 5, nil}, {-2, 0, nil}, {-2, -3, nil},
	} {
		got, ok := impl.FaroTo(c.n, c.at)
		wantPerm(t, fmt.Sprintf("FaroTo(%d, %d)", c.n, c.at), got, ok, c.want)
	}
	for _, n := range faroSizes {
		for at := 1; at < n; at++ {
			list, ok := impl.FaroTo(n, at)
			wantPerm(t, fmt.Sprintf("FaroTo(%d, %d)", n, at), list, ok, shuffleDigits(at))
		}
	}
}

func TestP9ShortestFaro(t *testing.T) {
	for _, c := range []struct {
		n, from, to int
		want        []int
	}{
		{2, 0, 0, []int{}}, {2, 1, 1, []int{}}, {2, 0, 1, []int{1}}, {2, 1, 0, []int{1}}, {2, 0, 2, nil}, {2, 2, 0, nil}, {2, -1, 0, nil}, {2, 0, -1, nil},
		{4, 0, 3, []int{1, 1}}, {4, 2, 2, []int{}}, {4, 1, 2, []int{0}}, {4, 2, 1, []int{0}}, {4, 3, 0, []int{1, 1}}, {4, 0, 1, []int{1}}, {4, 0, 2, []int{1, 0}}, {4, 1, 0, []int{0, 1}}, {4, 3, 1, []int{1, 0}},
		{8, 0, 5, []int{1, 0, 1}}, {8, 6, 6, []int{}}, {12, 0, 11, []int{1, 0, 1, 1}}, {12, 11, 0, []int{1, 0, 1, 1}}, {12, 5, 5, []int{}}, {12, 6, 0, []int{1}}, {12, 5, 11, []int{1}}, {12, 5, 10, []int{0}},
		{12, 0, 12, nil}, {12, 12, 0, nil}, {12, 12, 12, nil}, {12, -1, -1, nil}, {0, 0, 0, nil}, {1, 0, 0, nil}, {3, 0, 0, nil}, {3, 1, 2, nil}, {11, 3, 4, nil}, {13, 1, 2, nil}, {14, 3, 4, nil}, {14, 3, 3, nil}, {-2, 0, 0, nil},
	} {
		got, ok := impl.ShortestFaro(c.n, c.from, c.to)
		wantPerm(t, fmt.Sprintf("ShortestFaro(%d, %d, %d)", c.n, c.from, c.to), got, ok, c.want)
	}
	for _, n := range faroSizes {
		for at := range n {
			got, ok := impl.ShortestFaro(n, at, at)
			wantPerm(t, fmt.Sprintf("ShortestFaro(%d, %d, %d)", n, at, at), got, ok, []int{})
		}
	}
}

// wantNoWay checks FaroTo and ShortestFaro for a number of cards and an index that do not fit.
func wantNoWay(t *testing.T, n int, at int) {
	t.Helper()
	list, ok := impl.FaroTo(n, at)
	wantPerm(t, fmt.Sprintf("FaroTo(%d, %d)", n, at), list, ok, nil)
	for _, other := range []int{0, 1, at, n - 1} {
		list, ok = impl.ShortestFaro(n, at, other)
		wantPerm(t, fmt.Sprintf("ShortestFaro(%d, %d, %d)", n, at, other), list, ok, nil)
		list, ok = impl.ShortestFaro(n, other, at)
		wantPerm(t, fmt.Sprintf("ShortestFaro(%d, %d, %d)", n, other, at), list, ok, nil)
	}
}

func TestP9FaroToAndShortestFaroFail(t *testing.T) {
	for _, n := range noFaroSizes {
		for _, at := range append([]int{0, 1, 2, 5, 11, 12, n - 1, n, n / 2}, farNumbers...) {
			wantNoWay(t, n, at)
		}
	}
	for _, n := range faroSizes {
		for _, at := range append([]int{n, n + 1, 2 * n, -n}, farNumbers...) {
			wantNoWay(t, n, at)
		}
	}
}

func TestP9FaroRun(t *testing.T) {
	for _, c := range []struct{ p, list, want []int }{
		{[]int{0, 1}, nil, []int{0, 1}}, {[]int{0, 1}, []int{}, []int{0, 1}}, {[]int{0, 1}, []int{0}, []int{0, 1}}, {[]int{0, 1}, []int{1}, []int{1, 0}}, {[]int{11, -1}, []int{1}, []int{-1, 11}},
		{[]int{0, 1, 2, 3}, []int{0, 1}, []int{1, 0, 3, 2}}, {[]int{0, 1, 2, 3}, []int{1, 0}, []int{2, 3, 0, 1}}, {[]int{0, 1, 2, 3}, []int{1, 1}, []int{3, 2, 1, 0}}, {[]int{5, -3, 9, -1}, []int{1}, []int{9, 5, -1, -3}},
		{[]int{0, 1, 2, 3, 4, 5}, []int{0}, []int{0, 3, 1, 4, 2, 5}}, {[]int{-1, -2, 2, 3, 4, -6}, []int{1, 0}, []int{3, -2, -1, -6, 4, 2}}, {order(10), []int{1, 0, 1}, []int{3, 5, 1, 2, 9, 0, 7, 8, 4, 6}},
		{upElements, []int{0}, []int{-1, -7, -2, -8, -3, -9, -4, -10, -5, -11, -6, -12}}, {upElements, []int{1}, []int{-7, -1, -8, -2, -9, -3, -10, -4, -11, -5, -12, -6}},
		// No cards, an odd number of them, too many, one twice, and elements that are no cards.
		{nil, nil, nil}, {[]int{}, []int{0}, nil}, {[]int{0}, nil, nil}, {[]int{0}, []int{1}, nil}, {[]int{0, 1, 2}, nil, nil}, {[]int{0, 1, 2}, []int{0}, nil}, {order(11), []int{1}, nil}, {order(13), nil, nil}, {order(14), nil, nil}, {order(14), []int{0}, nil},
		{[]int{0, 0}, nil, nil}, {[]int{3, -4}, []int{1}, nil}, {[]int{0, 12}, nil, nil}, {[]int{-13, 0}, []int{0}, nil}, {[]int{0, 1, 2, math.MinInt64}, []int{0}, nil},
		// Elements that are no shuffles.
		{[]int{0, 1}, []int{2}, nil}, {[]int{0, 1}, []int{-1}, nil}, {[]int{0, 1, 2, 3}, []int{0, 1, 2}, nil}, {[]int{0, 1, 2, 3}, []int{2, 1, 0}, nil}, {order(12), []int{0, 1, -1, 0}, nil},
	} {
		got, ok := impl.FaroRun(c.p, c.list)
		wantPerm(t, fmt.Sprintf("FaroRun(%v, %v)", c.p, c.list), got, ok, c.want)
	}
	for _, n := range faroSizes {
		for _, p := range movePackets(n) {
			for length := range 7 {
				for _, list := range shuffleLists(length) {
					got, ok := impl.FaroRun(p, list)
					wantPerm(t, fmt.Sprintf("FaroRun(%v, %v)", p, list), got, ok, shuffled(p, list))
				}
			}
		}
	}
}

func TestP9FaroRunOfLongLists(t *testing.T) {
	for _, n := range faroSizes {
		for _, p := range movePackets(n) {
			for _, pattern := range [][]int{{0}, {1}, {0, 1}, {1, 0, 0}, {1, 1, 0, 1, 0, 0, 0}, {0, 0, 0, 0, 1}} {
				for _, length := range []int{19, 20, 21, 22, 40, 256, 5000} {
					list := slices.Repeat(pattern, length)[:length]
					var want []int
					if length <= 20 {
						want = shuffled(p, list)
					}
					got, ok := impl.FaroRun(p, list)
					wantPerm(t, fmt.Sprintf("FaroRun(%v) by %d shuffles", p, length), got, ok, want)
				}
			}
		}
	}
}

func TestP9FaroRunFails(t *testing.T) {
	lists := [][]int{nil, {0}, {1}, {1, 0, 1}, repeated(0, 20), repeated(1, 21)}
	for _, p := range append(slices.Clone(noPackets), nil, []int{}) {
		for _, list := range lists {
			got, ok := impl.FaroRun(p, list)
			wantPerm(t, fmt.Sprintf("FaroRun(%v, %v)", p, list), got, ok, nil)
		}
	}
	for n := 1; n <= 11; n += 2 {
		for _, p := range movePackets(n) {
			for _, list := range lists {
				got, ok := impl.FaroRun(p, list)
				wantPerm(t, fmt.Sprintf("FaroRun(%v, %v)", p, list), got, ok, nil)
			}
		}
	}
	for _, n := range faroSizes {
		for _, bad := range noShuffles {
			for _, length := range []int{1, 2, 3, 20} {
				for i := range length {
					list := repeated(i%2, length)
					list[i] = bad
					got, ok := impl.FaroRun(order(n), list)
					wantPerm(t, fmt.Sprintf("FaroRun of %d cards by %v", n, list), got, ok, nil)
				}
			}
		}
	}
}

func TestP9FaroGroup(t *testing.T) {
	for n, want := range map[int]int{2: 2, 4: 8, 6: 24, 8: 24, 9: -1, 10: -1, 12: -1} {
		if got := impl.FaroGroup(n); got != want {
			t.Errorf("FaroGroup(%d) = %d, want %d", n, got, want)
		}
	}
	for _, n := range noFaroSizes {
		if got := impl.FaroGroup(n); got != -1 {
			t.Errorf("FaroGroup(%d) = %d", n, got)
		}
	}
}

func TestP9IsCentral(t *testing.T) {
	for _, c := range []struct {
		a    []int
		want bool
	}{
		{nil, true}, {[]int{}, true}, {[]int{0}, true}, {[]int{0, 1}, true}, {[]int{1, 0}, true}, {[]int{0, 1, 2}, true}, {[]int{2, 1, 0}, true}, {[]int{1, 0, 2}, false}, {[]int{0, 2, 1}, false}, {[]int{1, 2, 0}, false},
		{[]int{0, 2, 1, 3}, true}, {[]int{2, 0, 3, 1}, true}, {[]int{1, 0, 2, 3}, false}, {[]int{1, 0, 3, 2}, true}, {[]int{3, 1, 2, 0}, true}, {[]int{0, 1, 3, 2}, false}, {[]int{3, 0, 1, 2}, false}, {[]int{1, 4, 2, 0, 3}, true}, {[]int{0, 3, 2, 1, 4}, true}, {[]int{2, 1, 0, 3, 4}, false},
		{order(11), true}, {order(12), true}, {descending(11, 0, 1), true}, {[]int{0, 6, 1, 7, 2, 8, 3, 9, 4, 10, 5, 11}, true}, {[]int{0, 1, 2, 3, 4, 6, 5, 7, 8, 9, 10, 11}, true}, {[]int{1, 0, 2, 3, 4, 5, 6, 7, 8, 9, 10, 11}, false},
	} {
		if got := impl.IsCentral(c.a); got != c.want {
			t.Errorf("IsCentral(%v) = %t", c.a, got)
		}
	}
	for n, want := range []int{1, 1, 2, 2, 8, 8, 48, 48} {
		count := 0
		for _, a := range permsOf(n) {
			got := impl.IsCentral(a)
			if got != central(a) {
				t.Errorf("IsCentral(%v) = %t", a, got)
			}
			if got {
				count++
			}
		}
		if count != want {
			t.Errorf("IsCentral is true for %d permutations of %d positions, want %d", count, n, want)
		}
	}
	for _, a := range longPerms {
		if got := impl.IsCentral(a); got != central(a) {
			t.Errorf("IsCentral(%v) = %t", a, got)
		}
	}
	// The pairs of these lists add up as they should, but they are no permutations.
	for _, a := range append(manyNoPerms(), []int{0, 0, 2, 2}, []int{3, 3, 0, 0}, []int{1, 1, 1}, []int{-1, 2}, []int{4, 1, 2, -1}, order(13), order(14), descending(12, 0, 1), ascending(1, 12, 1)) {
		if impl.IsCentral(a) {
			t.Errorf("IsCentral(%v) is true", a)
		}
	}
}

func TestP9PerfectShufflesAreNew(t *testing.T) {
	for _, n := range faroSizes {
		for i := range 2 {
			var results [][]int
			add := func(of string, got []int, ok bool, want []int) {
				wantPerm(t, fmt.Sprintf("%s of %d cards at call %d", of, n, i), got, ok, want)
				results = append(results, got)
			}
			for k := range 2 {
				got, ok := impl.FaroPerm(n, k)
				add("FaroPerm", got, ok, faroOrder(n, k))
			}
			got, ok := impl.FaroTo(n, n-1)
			add("FaroTo", got, ok, shuffleDigits(n-1))
			for from := range n {
				got, ok = impl.ShortestFaro(n, from, n-1)
				add("ShortestFaro", got, ok, firstShuffles(n, from, n-1))
			}
			spoil(t, "perfect shuffles", results)
		}
	}
}

func TestP9PerfectShufflesDoNotChangeTheirArguments(t *testing.T) {
	for _, n := range faroSizes {
		for _, list := range [][]int{nil, {0}, {1}, {1, 0, 1, 1}, repeated(1, 20)} {
			behind := append(slices.Clone(movePackets(n)[4]), 97, 98, 99)
			listBehind := append(slices.Clone(list), 97, 98, 99)
			before, listBefore := slices.Clone(behind), slices.Clone(listBehind)
			for i := range 2 {
				impl.IsCentral(behind[:n])
				got, ok := impl.FaroRun(behind[:n], listBehind[:len(list)])
				wantPerm(t, fmt.Sprintf("FaroRun(%v, %v) at call %d", before[:n], list, i), got, ok, shuffled(before[:n], list))
				spoil(t, "packets", [][]int{got})
				if !slices.Equal(behind, before) || !slices.Equal(listBehind, listBefore) {
					t.Fatalf("%v and %v have become %v and %v", before, listBefore, behind, listBehind)
				}
			}
		}
	}
	a := []int{2, 0, 3, 1, 97, 98, 99}
	if !impl.IsCentral(a[:4]) || !slices.Equal(a, []int{2, 0, 3, 1, 97, 98, 99}) {
		t.Errorf("IsCentral has changed its argument to %v", a)
	}
}
