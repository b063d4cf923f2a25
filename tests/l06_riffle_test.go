package tests

import (
	"fmt"
	"math"
	"slices"
	"testing"

	"loop.example/g00846/impl"
)

// rises reports whether the numbers from x to y are cards of a permutation and stand in ascending order.
func rises(a []int, x int, y int) bool {
	if x < 0 || y >= len(a) {
		return false
	}
	for ; x < y; x++ {
		if slices.Index(a, x) > slices.Index(a, x+1) {
			return false
		}
	}
	return true
}

// risingOf returns the rising sequences of a permutation: the consecutive numbers that rise, but with no further one.
func risingOf(a []int) [][]int {
	var sequences [][]int
	for x := range a {
		for y := x; y < len(a); y++ {
			if rises(a, x, y) && !rises(a, x-1, y) && !rises(a, x, y+1) {
				sequences = append(sequences, ascending(x, y+1, 1))
			}
		}
	}
	return sequences
}

// riffleWays returns in how many ways each permutation of n positions results from a riffle, by the text of the permutation.
func riffleWays(n int) map[string]int {
	ways := map[string]int{}
	for size := range n + 1 {
		for _, a := range interleaved(ascending(0, size, 1), ascending(size, n, 1)) {
			ways[fmt.Sprint(a)]++
		}
	}
	return ways
}

// blocks returns the cards of blocks of these sizes, the last block first, so that each block is a rising sequence.
func blocks(sizes ...int) []int {
	var a []int
	for _, size := range sizes {
		a = append(ascending(len(a), len(a)+size, 1), a...)
	}
	return a
}

// dealtOut returns the order from which the last riffle of UnshuffleTo gives a permutation.
func dealtOut(a []int) []int {
	var first, others []int
	sequences := risingOf(a)
	for _, x := range a {
		if slices.IndexFunc(sequences, func(s []int) bool { return slices.Contains(s, x) })%2 == 0 {
			first = append(first, x)
		} else {
			others = append(others, x)
		}
	}
	return append(first, others...)
}

func TestP3RifflesAreWhatOneRiffleCanGive(t *testing.T) {
	for n := 1; n <= 7; n++ {
		ways := riffleWays(n)
		count := 0
		for _, a := range permsOf(n) {
			want := ways[fmt.Sprint(a)]
			if got := impl.IsRiffle(a); got != (want > 0) {
				t.Errorf("IsRiffle(%v) = %t with %d ways", a, got, want)
			}
			if got := impl.RiffleWays(a); got != want {
				t.Errorf("RiffleWays(%v) = %d, want %d", a, got, want)
			}
			if want > 0 {
				count++
			}
		}
		if got := impl.CountRiffles(n); got != count {
			t.Errorf("CountRiffles(%d) = %d, want %d", n, got, count)
		}
	}
}

func TestP3RifflesOfManyCards(t *testing.T) {
	for n := 8; n <= 12; n++ {
		ways := riffleWays(n)
		if got := impl.CountRiffles(n); got != len(ways) {
			t.Errorf("CountRiffles(%d) = %d, want %d", n, got, len(ways))
		}
		for size := range n + 1 {
			for _, a := range interleaved(ascending(0, size, 1), ascending(size, n, 1)) {
				want := ways[fmt.Sprint(a)]
				if !impl.IsRiffle(a) || impl.RiffleWays(a) != want {
					t.Fatalf("%v has %d ways, want %d", a, impl.RiffleWays(a), want)
				}
				if got := impl.SplitOf(a); want == 1 && got != size || want > 1 && got != -1 {
					t.Fatalf("SplitOf(%v) = %d with %d cards in the first part", a, got, size)
				}
			}
		}
	}
}

func TestP3RifflesAreTheResultsOfTheChoice(t *testing.T) {
	for n := 1; n <= 7; n++ {
		var want [][]int
		for _, a := range permsOf(n) {
			if impl.IsRiffle(a) {
				want = append(want, a)
			}
		}
		got, ok := impl.ResultsOf(impl.NewPacket(n), impl.ChRiffle)
		wantResults(t, fmt.Sprintf("the riffles of %d cards", n), got, ok, want, true)
	}
	for n := 1; n <= 11; n++ {
		if got := impl.CountResults(impl.NewPacket(n), impl.ChRiffle); got != impl.CountRiffles(n) {
			t.Errorf("%d cards have %d riffles, and CountRiffles is %d", n, got, impl.CountRiffles(n))
		}
	}
}

func TestP3LeastRifflesAreEnoughAndFewerAreNot(t *testing.T) {
	for n := 1; n <= 6; n++ {
		riffles, _ := impl.ResultsOf(order(n), impl.ChRiffle)
		least := map[string]int{fmt.Sprint(order(n)): 0}
		for list := [][]int{order(n)}; len(list) > 0; list = list[1:] {
			for _, riffle := range riffles {
				next := performed(list[0], riffle)
				if _, found := least[fmt.Sprint(next)]; !found {
					least[fmt.Sprint(next)] = least[fmt.Sprint(list[0])] + 1
					list = append(list, next)
				}
			}
		}
		for _, a := range permsOf(n) {
			want, found := least[fmt.Sprint(a)]
			if got := impl.LeastRiffles(a); !found || got != want {
				t.Errorf("LeastRiffles(%v) = %d, want %d, %t", a, got, want, found)
			}
		}
	}
}

// wantUnshuffled checks UnshuffleTo for a valid permutation that is not empty.
func wantUnshuffled(t *testing.T, a []int) {
	t.Helper()
	list, ok := impl.UnshuffleTo(a)
	if !ok || len(list) != impl.LeastRiffles(a)+1 || !slices.Equal(list[0], order(len(a))) || !slices.Equal(list[len(list)-1], a) {
		t.Fatalf("UnshuffleTo(%v) = %v, %t", a, list, ok)
	}
	for i, after := range list[1:] {
		between, ok := impl.PermBetween(list[i], after)
		if !ok || len(risingOf(between)) > 2 || !impl.IsRiffle(between) {
			t.Errorf("no riffle gives %v after %v in UnshuffleTo(%v)", after, list[i], a)
		}
		if !slices.Equal(list[i], dealtOut(after)) {
			t.Errorf("%v comes before %v in UnshuffleTo(%v), want %v", list[i], after, a, dealtOut(after))
		}
	}
}

func TestP3EveryPermIsReachedByLeastRiffles(t *testing.T) {
	for _, a := range slices.Concat(permsUpTo(7)[1:], longPerms) {
		wantUnshuffled(t, a)
	}
	for count := 1; count <= 12; count++ {
		wantUnshuffled(t, blocks(append(repeated(1, count-1), 13-count)...))
		wantUnshuffled(t, blocks(append([]int{13 - count}, repeated(1, count-1)...)...))
	}
}

func TestP9RisingSequences(t *testing.T) {
	for _, c := range []struct {
		a    []int
		want [][]int
	}{
		{nil, nil}, {[]int{}, nil}, {[]int{0}, [][]int{{0}}}, {[]int{0, 1}, [][]int{{0, 1}}}, {[]int{1, 0}, [][]int{{0}, {1}}}, {[]int{0, 1, 2}, [][]int{{0, 1, 2}}},
		{[]int{2, 1, 0}, [][]int{{0}, {1}, {2}}}, {[]int{2, 0, 1}, [][]int{{0, 1}, {2}}}, {[]int{1, 2, 0}, [][]int{{0}, {1, 2}}}, {[]int{0, 2, 1}, [][]int{{0, 1}, {2}}},
		{[]int{2, 0, 3, 1}, [][]int{{0, 1}, {2, 3}}}, {[]int{1, 3, 0, 2}, [][]int{{0}, {1, 2}, {3}}},
		{[]int{3, 7, 0, 9, 1, 4, 2, 8, 6, 5}, [][]int{{0, 1, 2}, {3, 4, 5}, {6}, {7, 8}, {9}}},
		{[]int{0, 6, 1, 7, 2, 8, 3, 9, 4, 10, 5, 11}, [][]int{{0, 1, 2, 3, 4, 5}, {6, 7, 8, 9, 10, 11}}},
		{[]int{11, 0, 1, 2, 3, 4, 5, 6, 7, 8, 9, 10}, [][]int{{0, 1, 2, 3, 4, 5, 6, 7, 8, 9, 10}, {11}}},
		{[]int{11, 10, 9, 8, 7, 6, 5, 4, 3, 2, 1, 0}, [][]int{{0}, {1}, {2}, {3}, {4}, {5}, {6}, {7}, {8}, {9}, {10}, {11}}},
		{order(12), [][]int{order(12)}},
	} {
		if got := impl.RisingSequences(c.a); !sameLists(got, c.want) {
			t.Errorf("RisingSequences(%v) = %v, want %v", c.a, got, c.want)
		}
	}
	for _, a := range append(permsUpTo(7), longPerms...) {
		if got := impl.RisingSequences(a); !sameLists(got, risingOf(a)) {
			t.Errorf("RisingSequences(%v) = %v, want %v", a, got, risingOf(a))
		}
	}
}

func TestP9FunctionsOfRisingSequences(t *testing.T) {
	for _, c := range []struct {
		a                        []int
		riffle                   bool
		ways, least, split, size int
	}{
		{nil, true, 1, -1, -1, 0}, {[]int{}, true, 1, -1, -1, 0}, {[]int{0}, true, 2, 0, -1, 1}, {[]int{0, 1}, true, 3, 0, -1, 1}, {[]int{1, 0}, true, 1, 1, 1, 2},
		{[]int{0, 1, 2}, true, 4, 0, -1, 1}, {[]int{2, 0, 1}, true, 1, 1, 2, 2}, {[]int{1, 2, 0}, true, 1, 1, 1, 2}, {[]int{1, 0, 2}, true, 1, 1, 1, 2}, {[]int{0, 2, 1}, true, 1, 1, 2, 2},
		{[]int{2, 1, 0}, false, 0, 2, -1, 3}, {[]int{2, 0, 3, 1}, true, 1, 1, 2, 2}, {[]int{1, 3, 0, 2}, false, 0, 2, -1, 3}, {[]int{3, 2, 1, 0}, false, 0, 2, -1, 4},
		{[]int{4, 3, 2, 1, 0}, false, 0, 3, -1, 5}, {[]int{3, 7, 0, 9, 1, 4, 2, 8, 6, 5}, false, 0, 3, -1, 5}, {order(12), true, 13, 0, -1, 1},
		{[]int{0, 6, 1, 7, 2, 8, 3, 9, 4, 10, 5, 11}, true, 1, 1, 6, 2}, {[]int{1, 2, 3, 4, 5, 6, 7, 8, 9, 10, 11, 0}, true, 1, 1, 1, 2}, {[]int{11, 0, 1, 2, 3, 4, 5, 6, 7, 8, 9, 10}, true, 1, 1, 11, 2},
		// The numbers of rising sequences up to MaxCards, each power of 2 and the next one among them.
		{blocks(12), true, 13, 0, -1, 1}, {blocks(5, 7), true, 1, 1, 5, 2}, {blocks(3, 4, 5), false, 0, 2, -1, 3}, {blocks(3, 3, 3, 3), false, 0, 2, -1, 4}, {blocks(2, 2, 2, 2, 4), false, 0, 3, -1, 5},
		{blocks(2, 2, 2, 2, 2, 2), false, 0, 3, -1, 6}, {blocks(1, 1, 1, 1, 1, 1, 6), false, 0, 3, -1, 7}, {blocks(1, 2, 1, 2, 1, 2, 1, 2), false, 0, 3, -1, 8}, {blocks(4, 1, 1, 1, 1, 1, 1, 1, 1), false, 0, 4, -1, 9},
		{blocks(2, 2, 1, 1, 1, 1, 1, 1, 1, 1), false, 0, 4, -1, 10}, {blocks(1, 1, 1, 1, 1, 1, 1, 1, 1, 1, 2), false, 0, 4, -1, 11}, {blocks(repeated(1, 12)...), false, 0, 4, -1, 12},
		{blocks(repeated(1, 8)...), false, 0, 3, -1, 8}, {blocks(repeated(1, 9)...), false, 0, 4, -1, 9}, {blocks(repeated(1, 10)...), false, 0, 4, -1, 10}, {blocks(repeated(1, 11)...), false, 0, 4, -1, 11},
	} {
		riffle, ways, least, split, size := impl.IsRiffle(c.a), impl.RiffleWays(c.a), impl.LeastRiffles(c.a), impl.SplitOf(c.a), len(impl.RisingSequences(c.a))
		if riffle != c.riffle || ways != c.ways || least != c.least || split != c.split || size != c.size {
			t.Errorf("%v: %t, %d, %d, %d, %d; want %t, %d, %d, %d, %d", c.a, riffle, ways, least, split, size, c.riffle, c.ways, c.least, c.split, c.size)
		}
	}
}

func TestP9SplitOf(t *testing.T) {
	for _, a := range append(permsUpTo(7), longPerms...) {
		want := -1
		if sequences := risingOf(a); len(sequences) == 2 {
			want = len(sequences[0])
		}
		if got := impl.SplitOf(a); got != want {
			t.Errorf("SplitOf(%v) = %d, want %d", a, got, want)
		}
	}
}

func TestP9LeastRiffles(t *testing.T) {
	for _, a := range append(permsUpTo(7)[1:], longPerms...) {
		want := 0
		for reached := 1; reached < len(risingOf(a)); reached *= 2 {
			want++
		}
		if got := impl.LeastRiffles(a); got != want {
			t.Errorf("LeastRiffles(%v) = %d, want %d", a, got, want)
		}
	}
}

func TestP9RiffleWaysOfTheOrder(t *testing.T) {
	for n := range 13 {
		if got := impl.RiffleWays(order(n)); got != n+1 {
			t.Errorf("RiffleWays(%v) = %d", order(n), got)
		}
	}
}

func TestP9CountRiffles(t *testing.T) {
	for i, want := range []int{1, 2, 5, 12, 27, 58, 121, 248, 503, 1014, 2037, 4084} {
		if got := impl.CountRiffles(i + 1); got != want {
			t.Errorf("CountRiffles(%d) = %d, want %d", i+1, got, want)
		}
	}
	for _, n := range append([]int{0, 62, 63, 64, 65, 1<<32 + 5, math.MinInt64 + 5}, farNumbers...) {
		if got := impl.CountRiffles(n); got != -1 {
			t.Errorf("CountRiffles(%d) = %d", n, got)
		}
	}
}

func TestP9UnshuffleTo(t *testing.T) {
	for _, c := range []struct {
		a    []int
		want [][]int
	}{
		{nil, nil}, {[]int{}, nil}, {[]int{0}, [][]int{{0}}}, {[]int{0, 1, 2}, [][]int{{0, 1, 2}}}, {order(12), [][]int{order(12)}}, {[]int{1, 0}, [][]int{{0, 1}, {1, 0}}},
		{[]int{2, 1, 0}, [][]int{{0, 1, 2}, {2, 0, 1}, {2, 1, 0}}}, {[]int{3, 2, 1, 0}, [][]int{{0, 1, 2, 3}, {2, 0, 3, 1}, {3, 2, 1, 0}}}, {[]int{2, 0, 3, 1}, [][]int{{0, 1, 2, 3}, {2, 0, 3, 1}}},
		{[]int{4, 3, 2, 1, 0}, [][]int{{0, 1, 2, 3, 4}, {4, 0, 1, 2, 3}, {4, 2, 0, 3, 1}, {4, 3, 2, 1, 0}}},
		{[]int{3, 7, 0, 9, 1, 4, 2, 8, 6, 5}, [][]int{order(10), {0, 9, 1, 2, 3, 4, 5, 6, 7, 8}, {0, 9, 1, 2, 6, 3, 7, 4, 8, 5}, {3, 7, 0, 9, 1, 4, 2, 8, 6, 5}}},
		{[]int{11, 10, 9, 8, 7, 6, 5, 4, 3, 2, 1, 0}, [][]int{
			order(12), {8, 0, 9, 1, 10, 2, 11, 3, 4, 5, 6, 7}, {8, 4, 0, 9, 5, 1, 10, 6, 2, 11, 7, 3}, {10, 8, 6, 4, 2, 0, 11, 9, 7, 5, 3, 1}, {11, 10, 9, 8, 7, 6, 5, 4, 3, 2, 1, 0},
		}},
	} {
		got, ok := impl.UnshuffleTo(c.a)
		wantResults(t, fmt.Sprintf("the riffles to %v", c.a), got, ok, c.want, c.want != nil)
	}
}

// wantNoRiffle checks the functions that have a permutation as their argument for a list that is none.
func wantNoRiffle(t *testing.T, a []int) {
	t.Helper()
	if got := impl.RisingSequences(a); len(got) != 0 {
		t.Errorf("RisingSequences(%v) = %v", a, got)
	}
	if impl.IsRiffle(a) {
		t.Errorf("IsRiffle(%v) is true", a)
	}
	if ways, least, split := impl.RiffleWays(a), impl.LeastRiffles(a), impl.SplitOf(a); ways != 0 || least != -1 || split != -1 {
		t.Errorf("%v: %d ways, %d riffles, split at %d", a, ways, least, split)
	}
	list, ok := impl.UnshuffleTo(a)
	wantResults(t, fmt.Sprintf("the riffles to %v", a), list, ok, nil, false)
}

// manyNoPerms returns, besides noPerms, all short lists and lists of 12 positions that differ a little from permutations.
func manyNoPerms() [][]int {
	lists := slices.Clone(noPerms)
	perms := permsUpTo(4)
	for _, a := range listsOver([]int{-2, -1, 0, 1, 2, 3, 4}, 4) {
		if !slices.ContainsFunc(perms, func(b []int) bool { return slices.Equal(a, b) }) {
			lists = append(lists, a)
		}
	}
	for i := range 12 {
		for x := -2; x < 15; x++ {
			if a := order(12); x != i {
				a[i] = x
				lists = append(lists, a)
			}
		}
	}
	return lists
}

func TestP9RifflesOfWhatIsNoPerm(t *testing.T) {
	for _, a := range manyNoPerms() {
		wantNoRiffle(t, a)
	}
}

func TestP9RifflesAreNew(t *testing.T) {
	for _, a := range slices.Concat(permsUpTo(5), longPerms) {
		behind := append(slices.Clone(a), 97, 98, 99)
		before := slices.Clone(behind)
		p := behind[:len(a)]
		var list [][]int
		for i := range 2 {
			of := fmt.Sprintf("the rising sequences and the riffles to %v", a)
			sequences := impl.RisingSequences(p)
			if !sameLists(sequences, risingOf(a)) {
				t.Fatalf("RisingSequences(%v) = %v at call %d", p, sequences, i)
			}
			again, ok := impl.UnshuffleTo(p)
			if ok != (len(a) > 0) || ok && !slices.Equal(again[len(again)-1], a) || i > 0 && len(again) != len(list) {
				t.Fatalf("UnshuffleTo(%v) = %v, %t at call %d", p, again, ok, i)
			}
			list = again
			count := len(sequences)
			if impl.IsRiffle(p) != (count <= 2) || (impl.RiffleWays(p) > 0) != (count <= 2) || (impl.SplitOf(p) > 0) != (count == 2) || (impl.LeastRiffles(p) >= 0) != (count > 0) {
				t.Fatalf("wrong results for %v at call %d", p, i)
			}
			// Whatever is written to the results changes neither the argument nor the next results.
			spoil(t, of, slices.Concat(sequences, list))
			if !slices.Equal(behind, before) {
				t.Fatalf("%v has become %v", before, behind)
			}
		}
	}
}
