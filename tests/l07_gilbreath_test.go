package tests

import (
	"fmt"
	"math"
	"slices"
	"strings"
	"testing"

	"loop.example/g00846/impl"
)

// dealtAndRiffled returns all orders that result from the cards 0 up to n if size cards are dealt one by one and both
// parts are riffled together.
func dealtAndRiffled(n int, size int) [][]int {
	return interleaved(descending(size-1, 0, 1), ascending(size, n, 1))
}

// gilbreathsOf returns the different Gilbreath permutations of n positions in lexicographic order, by what a shuffle does.
func gilbreathsOf(n int) [][]int {
	var all [][]int
	for size := range n + 1 {
		all = append(all, dealtAndRiffled(n, size)...)
	}
	return inOrder(all)
}

// prefixesSuccessive reports whether the first k elements of a permutation are k consecutive numbers, for each k.
func prefixesSuccessive(a []int) bool {
	for k := range a {
		prefix := slices.Sorted(slices.Values(a[:k+1]))
		if !slices.Equal(prefix, ascending(prefix[0], prefix[0]+k+1, 1)) {
			return false
		}
	}
	return true
}

// blocksOf reports whether the blocks of a permutation, for a size from 1 to its length, have different remainders.
func blocksOf(a []int, size int) bool {
	for i, x := range a {
		for j, y := range a {
			if i < j && i/size == j/size && x%size == y%size {
				return false
			}
		}
	}
	return true
}

// colorLists returns all lists of n colors.
func colorLists(n int) [][]int {
	lists := [][]int{nil}
	for range n {
		var longer [][]int
		for _, list := range lists {
			longer = append(longer, append(slices.Clone(list), 0), append(slices.Clone(list), 1))
		}
		lists = longer
	}
	return lists
}

// alternating returns n colors in turn, beginning with first.
func alternating(first int, n int) []int {
	return slices.Repeat([]int{first, 1 - first}, n)[:n]
}

// noColors are numbers that are no colors.
var noColors = []int{-1, 2, 3, -2, 11, 12, 255, 256, 257, -255, -256, 1 << 32, 1<<32 + 1, -1 << 32, math.MinInt64, math.MinInt64 + 1, math.MaxInt64 - 1, math.MaxInt64}

// partOf returns the elements from x up to y, in their order.
func partOf(list []int, x int, y int) []int {
	return slices.DeleteFunc(slices.Clone(list), func(element int) bool { return element < x || element >= y })
}

func TestP3GilbreathsAreWhatDealingAndRifflingGive(t *testing.T) {
	for n := 1; n <= 12; n++ {
		want := gilbreathsOf(n)
		got := impl.GilbreathsOf(n)
		if len(got) != 1<<(n-1) || !sameLists(got, want) {
			t.Errorf("GilbreathsOf(%d) has %d permutations and begins with %v", n, len(got), got[:min(len(got), 8)])
		}
		for _, a := range want {
			if !impl.IsGilbreath(a) {
				t.Errorf("IsGilbreath(%v) is false", a)
			}
		}
	}
}

func TestP3IsGilbreathExactlyForThose(t *testing.T) {
	for n := 1; n <= 8; n++ {
		var found [][]int
		for _, a := range permsOf(n) {
			if impl.IsGilbreath(a) {
				found = append(found, a)
			}
		}
		if !sameLists(found, gilbreathsOf(n)) || !sameLists(found, impl.GilbreathsOf(n)) || len(found) != 1<<(n-1) {
			t.Errorf("IsGilbreath is true for %d permutations of %d positions", len(found), n)
		}
	}
}

func TestP3PrefixesOfGilbreathsAreConsecutive(t *testing.T) {
	for _, a := range append(permsUpTo(7), longPerms...) {
		if got := impl.IsGilbreath(a); got != prefixesSuccessive(a) {
			t.Errorf("IsGilbreath(%v) = %t", a, got)
		}
	}
	// Any two elements that change their places in a long one.
	for _, a := range [][]int{order(12), descending(11, 0, 1), {5, 6, 4, 7, 3, 8, 2, 9, 1, 10, 0, 11}, {3, 4, 5, 2, 6, 7, 8, 9, 1, 10, 0, 11}} {
		for i := range a {
			for j := range i {
				b := slices.Clone(a)
				b[i], b[j] = b[j], b[i]
				if got := impl.IsGilbreath(b); got != prefixesSuccessive(b) {
					t.Errorf("IsGilbreath(%v) = %t", b, got)
				}
			}
		}
	}
}

func TestP3DealingTheGilbreathCutGivesThePermutation(t *testing.T) {
	for n := 1; n <= 12; n++ {
		for _, a := range impl.GilbreathsOf(n) {
			cut := impl.GilbreathCut(a)
			if cut != a[0]+1 || !slices.Equal(partOf(a, 0, cut), descending(cut-1, 0, 1)) || !slices.Equal(partOf(a, cut, n), ascending(cut, n, 1)) {
				t.Errorf("GilbreathCut(%v) = %d", a, cut)
			}
			dealt, ok := impl.Perform(impl.NewPacket(n), impl.Move{Kind: impl.MvDeal, K: cut})
			if !ok {
				t.Fatalf("%d of %d cards are not dealt", cut, n)
			}
			riffle, _ := impl.PermBetween(dealt, a)
			if split := impl.SplitOf(riffle); !impl.IsRiffle(riffle) || split != cut && !slices.Equal(riffle, order(n)) {
				t.Errorf("%v comes from %v by %v, with the first %d cards", a, dealt, riffle, split)
			}
		}
	}
}

func TestP3BlocksOfAllSizesAreThoseOfGilbreaths(t *testing.T) {
	for _, a := range append(permsUpTo(7)[1:], longPerms...) {
		all := true
		for size := 1; size <= len(a); size++ {
			all = all && impl.HasBlocks(a, size)
		}
		if all != impl.IsGilbreath(a) {
			t.Errorf("%v has blocks of all sizes: %t", a, all)
		}
	}
	for n := 8; n <= 12; n++ {
		for _, a := range gilbreathsOf(n) {
			for size := 1; size <= n; size++ {
				if !impl.HasBlocks(a, size) {
					t.Errorf("HasBlocks(%v, %d) is false", a, size)
				}
			}
		}
	}
}

func TestP3PairsOfAlternateColorsDifferAfterGilbreaths(t *testing.T) {
	for n := range 13 {
		for first := range 2 {
			colors := alternating(first, n)
			if !impl.AlternateOk(colors) {
				t.Fatalf("AlternateOk(%v) is false", colors)
			}
			for _, a := range impl.GilbreathsOf(n) {
				after, ok := impl.ColorsAfter(colors, a)
				if !ok || !slices.Equal(after, performed(colors, a)) || !impl.PairsDiffer(after) {
					t.Errorf("the colors %v are %v, %t after %v", colors, after, ok, a)
				}
			}
		}
	}
	for _, a := range permsUpTo(6)[1:] {
		after, ok := impl.ColorsAfter(alternating(0, len(a)), a)
		if !ok || impl.PairsDiffer(after) != blocksOf(a, 2) {
			t.Errorf("the colors are %v, %t after %v", after, ok, a)
		}
	}
}

func TestP9IsGilbreathAndGilbreathCut(t *testing.T) {
	for _, c := range []struct {
		a         []int
		gilbreath bool
		cut       int
	}{
		{nil, true, -1}, {[]int{}, true, -1}, {[]int{0}, true, 1}, {[]int{0, 1}, true, 1}, {[]int{1, 0}, true, 2},
		{[]int{0, 1, 2}, true, 1}, {[]int{0, 2, 1}, false, -1}, {[]int{1, 0, 2}, true, 2}, {[]int{1, 2, 0}, true, 2}, {[]int{2, 0, 1}, false, -1}, {[]int{2, 1, 0}, true, 3},
		{[]int{2, 1, 3, 0, 4}, true, 3}, {[]int{2, 3, 1, 4, 0}, true, 3}, {[]int{2, 1, 0, 4, 3}, false, -1}, {[]int{2, 4, 3, 1, 0}, false, -1}, {[]int{0, 1, 2, 4, 3}, false, -1},
		{[]int{1, 2, 3, 4, 0}, true, 2}, {[]int{4, 0, 1, 2, 3}, false, -1}, {[]int{1, 0, 3, 2}, false, -1}, {[]int{3, 2, 0, 1}, false, -1},
		{order(11), true, 1}, {descending(10, 0, 1), true, 11}, {order(12), true, 1}, {descending(11, 0, 1), true, 12},
		{[]int{5, 6, 4, 7, 3, 8, 2, 9, 1, 10, 0, 11}, true, 6}, {[]int{10, 11, 9, 8, 7, 6, 5, 4, 3, 2, 1, 0}, true, 11}, {[]int{1, 2, 3, 4, 5, 6, 7, 8, 9, 10, 11, 0}, true, 2},
		{[]int{0, 1, 2, 3, 4, 5, 6, 7, 8, 9, 11, 10}, false, -1}, {[]int{11, 10, 9, 8, 7, 6, 5, 4, 3, 2, 0, 1}, false, -1}, {[]int{0, 11, 1, 10, 2, 9, 3, 8, 4, 7, 5, 6}, false, -1},
	} {
		if got := impl.IsGilbreath(c.a); got != c.gilbreath {
			t.Errorf("IsGilbreath(%v) = %t", c.a, got)
		}
		if got := impl.GilbreathCut(c.a); got != c.cut {
			t.Errorf("GilbreathCut(%v) = %d, want %d", c.a, got, c.cut)
		}
	}
	for n := 1; n <= 12; n++ {
		if back := descending(n-1, 0, 1); !impl.IsGilbreath(order(n)) || impl.GilbreathCut(order(n)) != 1 || !impl.IsGilbreath(back) || impl.GilbreathCut(back) != n {
			t.Errorf("the order of %d cards and the reversed one have the cuts %d and %d", n, impl.GilbreathCut(order(n)), impl.GilbreathCut(back))
		}
	}
	for _, a := range permsUpTo(7)[1:] {
		want := -1
		if prefixesSuccessive(a) {
			want = a[0] + 1
		}
		if got := impl.GilbreathCut(a); got != want {
			t.Errorf("GilbreathCut(%v) = %d, want %d", a, got, want)
		}
	}
}

func TestP9GilbreathsOf(t *testing.T) {
	for n, want := range [][][]int{
		nil, {{0}}, {{0, 1}, {1, 0}}, {{0, 1, 2}, {1, 0, 2}, {1, 2, 0}, {2, 1, 0}},
		{{0, 1, 2, 3}, {1, 0, 2, 3}, {1, 2, 0, 3}, {1, 2, 3, 0}, {2, 1, 0, 3}, {2, 1, 3, 0}, {2, 3, 1, 0}, {3, 2, 1, 0}},
	} {
		if got := impl.GilbreathsOf(n); !sameLists(got, want) {
			t.Errorf("GilbreathsOf(%d) = %v, want %v", n, got, want)
		}
	}
	if got := impl.GilbreathsOf(12); len(got) != 2048 || !slices.Equal(got[0], order(12)) || !slices.Equal(got[1], []int{1, 0, 2, 3, 4, 5, 6, 7, 8, 9, 10, 11}) || !slices.Equal(got[2047], descending(11, 0, 1)) {
		t.Errorf("GilbreathsOf(12) has %d permutations", len(got))
	}
	for _, n := range append([]int{0, 62, 63, 64, 65, math.MinInt64 + 5}, farNumbers...) {
		if got := impl.GilbreathsOf(n); len(got) != 0 {
			t.Errorf("GilbreathsOf(%d) has %d permutations", n, len(got))
		}
	}
}

func TestP9HasBlocks(t *testing.T) {
	for _, c := range []struct {
		a     []int
		sizes []int
	}{
		{nil, nil}, {[]int{}, nil}, {[]int{0}, []int{1}}, {[]int{0, 1}, []int{1, 2}}, {[]int{1, 0}, []int{1, 2}},
		{[]int{0, 2, 1}, []int{1, 3}}, {[]int{2, 0, 1}, []int{1, 3}}, {[]int{0, 2, 1, 3}, []int{1, 3, 4}}, {[]int{0, 3, 1, 2}, []int{1, 2, 4}}, {[]int{2, 1, 3, 0, 4}, []int{1, 2, 3, 4, 5}},
		// Also sizes for which the last block is shorter than the others.
		{[]int{0, 1, 2, 3, 4}, []int{1, 2, 3, 4, 5}}, {[]int{0, 1, 2, 3, 5, 4, 6}, []int{1, 2, 3, 4, 6, 7}}, {[]int{1, 2, 4, 3, 0}, []int{1, 2, 4, 5}}, {[]int{1, 3, 5, 2, 4, 0, 6, 7}, []int{1, 3, 5, 6, 7, 8}},
		{[]int{1, 5, 3, 2, 4, 0}, []int{1, 3, 5, 6}}, {[]int{2, 1, 3, 4, 0}, []int{1, 2, 3, 4, 5}}, {[]int{1, 2, 3, 0, 5, 4, 6}, []int{1, 2, 3, 4, 6, 7}}, {[]int{1, 2, 3, 4, 0, 5}, []int{1, 2, 3, 4, 5, 6}},
		{[]int{1, 2, 5, 3, 4, 0}, []int{1, 5, 6}}, {[]int{3, 1, 2, 0, 5, 4}, []int{1, 3, 4, 6}},
		{order(12), order(13)[1:]}, {descending(11, 0, 1), order(13)[1:]}, {[]int{5, 6, 4, 7, 3, 8, 2, 9, 1, 10, 0, 11}, order(13)[1:]},
		{[]int{0, 4, 8, 1, 5, 9, 2, 6, 10, 3, 7, 11}, []int{1, 3, 6, 11, 12}}, {[]int{0, 3, 6, 9, 1, 4, 7, 10, 2, 5, 8, 11}, []int{1, 2, 4, 11, 12}}, {[]int{0, 11, 1, 10, 2, 9, 3, 8, 4, 7, 5, 6}, []int{1, 2, 3, 4, 6, 12}},
	} {
		for size := -1; size <= len(c.a)+2; size++ {
			if got := impl.HasBlocks(c.a, size); got != slices.Contains(c.sizes, size) {
				t.Errorf("HasBlocks(%v, %d) = %t", c.a, size, got)
			}
		}
	}
	for _, a := range append(permsUpTo(7), longPerms...) {
		for size := 1; size <= len(a); size++ {
			if got := impl.HasBlocks(a, size); got != blocksOf(a, size) {
				t.Errorf("HasBlocks(%v, %d) = %t", a, size, got)
			}
		}
		for _, size := range append([]int{0, len(a) + 1, 2*len(a) + 1, -len(a) - 1}, farNumbers...) {
			if impl.HasBlocks(a, size) {
				t.Errorf("HasBlocks(%v, %d) is true", a, size)
			}
		}
	}
}

func TestP9GilbreathsOfWhatIsNoPerm(t *testing.T) {
	for _, a := range manyNoPerms() {
		if impl.IsGilbreath(a) || impl.GilbreathCut(a) != -1 {
			t.Errorf("IsGilbreath(%v) = %t, GilbreathCut = %d", a, impl.IsGilbreath(a), impl.GilbreathCut(a))
		}
		for _, size := range []int{-1, 0, 1, 2, 3, 5, 12, 13, len(a), math.MinInt64, math.MaxInt64} {
			if impl.HasBlocks(a, size) {
				t.Errorf("HasBlocks(%v, %d) is true", a, size)
			}
		}
		got, ok := impl.ColorsAfter(alternating(1, len(a)), a)
		wantPerm(t, fmt.Sprintf("the list of colors after %v", a), got, ok, nil)
	}
}

// wantColors checks AlternateOk and PairsDiffer for a list.
func wantColors(t *testing.T, colors []int, alternate bool, differ bool) {
	t.Helper()
	if got := impl.AlternateOk(colors); got != alternate {
		t.Errorf("AlternateOk(%v) = %t", colors, got)
	}
	if got := impl.PairsDiffer(colors); got != differ {
		t.Errorf("PairsDiffer(%v) = %t", colors, got)
	}
}

func TestP9AlternateOkAndPairsDiffer(t *testing.T) {
	for _, c := range []struct {
		colors            []int
		alternate, differ bool
	}{
		{nil, true, true}, {[]int{}, true, true}, {[]int{0}, true, true}, {[]int{1}, true, true}, {[]int{0, 1}, true, true}, {[]int{1, 0}, true, true}, {[]int{0, 0}, false, false}, {[]int{1, 1}, false, false},
		{[]int{1, 0, 1}, true, true}, {[]int{0, 1, 1}, false, true}, {[]int{1, 0, 0}, false, true}, {[]int{0, 0, 1}, false, false}, {[]int{0, 1, 1, 0}, false, true}, {[]int{0, 1, 0, 0}, false, false},
		{[]int{0, 1, 1, 0, 0}, false, true}, {[]int{0, 1, 0, 1, 1}, false, true}, {[]int{0, 1, 0, 1, 0}, true, true}, {[]int{1, 1, 0, 1, 0}, false, false},
		{alternating(0, 11), true, true}, {alternating(1, 12), true, true}, {alternating(0, 13), false, false}, {alternating(1, 13), false, false}, {alternating(0, 14), false, false}, {alternating(0, 5000), false, false},
		{[]int{0, 1, 1, 0, 0, 1, 1, 0, 0, 1, 1, 0}, false, true}, {[]int{0, 1, 0, 1, 0, 1, 0, 1, 0, 1, 0, 0}, false, false}, {[]int{0, 1, 0, 1, 0, 1, 0, 1, 0, 1, 1}, false, true}, {repeated(0, 13), false, false},
	} {
		wantColors(t, c.colors, c.alternate, c.differ)
	}
	for n := range 14 {
		for _, colors := range colorLists(n) {
			text := strings.Trim(fmt.Sprint(colors), "[]")
			alternate := n <= 12 && !strings.Contains(text, "0 0") && !strings.Contains(text, "1 1")
			differ := n <= 12
			for i := 0; i+1 < n; i += 2 {
				differ = differ && colors[i]+colors[i+1] == 1
			}
			wantColors(t, colors, alternate, differ)
		}
	}
}

func TestP9NumbersThatAreNoColors(t *testing.T) {
	for _, x := range noColors {
		for n := 1; n <= 12; n++ {
			for i := range n {
				for first := range 2 {
					colors := alternating(first, n)
					colors[i] = x
					wantColors(t, colors, false, false)
				}
			}
		}
		wantColors(t, repeated(x, 12), false, false)
	}
}

func TestP9ColorsAfter(t *testing.T) {
	for _, c := range []struct{ colors, a, want []int }{
		{nil, nil, []int{}}, {[]int{}, nil, []int{}}, {nil, []int{}, []int{}}, {[]int{1}, []int{0}, []int{1}}, {[]int{0, 1}, []int{0, 1}, []int{0, 1}}, {[]int{0, 1}, []int{1, 0}, []int{1, 0}},
		{[]int{0, 1, 0, 1}, []int{1, 2, 0, 3}, []int{1, 0, 0, 1}}, {[]int{0, 0, 1}, []int{1, 2, 0}, []int{0, 1, 0}}, {[]int{0, 0, 1}, []int{2, 0, 1}, []int{1, 0, 0}},
		{alternating(1, 12), descending(11, 0, 1), alternating(0, 12)}, {[]int{1, 0, 0, 0, 0, 0, 0, 0, 0, 0, 0, 0}, []int{1, 2, 3, 4, 5, 6, 7, 8, 9, 10, 11, 0}, []int{0, 0, 0, 0, 0, 0, 0, 0, 0, 0, 0, 1}},
		// The elements are taken as they are, also where they are no colors.
		{[]int{5, -7, math.MinInt64}, []int{1, 2, 0}, []int{-7, math.MinInt64, 5}}, {[]int{2, 2, -1}, []int{2, 1, 0}, []int{-1, 2, 2}},
		// Lengths that differ.
		{nil, []int{0}, nil}, {[]int{0}, nil, nil}, {[]int{0, 1}, []int{0, 1, 2}, nil}, {[]int{0, 1, 0}, []int{1, 0}, nil}, {alternating(0, 11), order(12), nil}, {alternating(0, 12), order(11), nil},
		{alternating(0, 13), order(12), nil}, {alternating(0, 13), order(13), nil}, {alternating(0, 12), order(13), nil}, {alternating(0, 5000), order(12), nil},
	} {
		got, ok := impl.ColorsAfter(c.colors, c.a)
		wantPerm(t, fmt.Sprintf("%v after %v", c.colors, c.a), got, ok, c.want)
	}
	for _, a := range append(permsUpTo(6), longPerms...) {
		for n := range 14 {
			colors := ascending(100, 100+n, 1)
			var want []int
			if n == len(a) {
				want = performed(colors, a)
			}
			got, ok := impl.ColorsAfter(colors, a)
			wantPerm(t, fmt.Sprintf("%v after %v", colors, a), got, ok, want)
		}
	}
}

func TestP9GilbreathsAreNew(t *testing.T) {
	for n := 1; n <= 12; n++ {
		for i := range 2 {
			got := impl.GilbreathsOf(n)
			if !sameLists(got, gilbreathsOf(n)) {
				t.Fatalf("GilbreathsOf(%d) is wrong at call %d", n, i)
			}
			spoil(t, fmt.Sprintf("the Gilbreath permutations of %d positions", n), got)
		}
	}
	for _, a := range slices.Concat(permsUpTo(5), longPerms) {
		behind := append(slices.Clone(a), 97, 98, 99)
		colorsBehind := append(alternating(1, len(a)), 97, 98, 99)
		before, colorsBefore := slices.Clone(behind), slices.Clone(colorsBehind)
		p, colors := behind[:len(a)], colorsBehind[:len(a)]
		for i := range 2 {
			impl.IsGilbreath(p)
			impl.GilbreathCut(p)
			for size := range len(a) + 2 {
				impl.HasBlocks(p, size)
			}
			if !impl.AlternateOk(colors) || !impl.PairsDiffer(colors) {
				t.Fatalf("%v do not differ at call %d", colors, i)
			}
			after, ok := impl.ColorsAfter(colors, p)
			wantPerm(t, fmt.Sprintf("%v after %v at call %d", colors, p, i), after, ok, performed(colorsBefore[:len(a)], a))
			spoil(t, "colors", [][]int{after})
			if !slices.Equal(behind, before) || !slices.Equal(colorsBehind, colorsBefore) {
				t.Fatalf("%v and %v have become %v and %v", before, colorsBefore, behind, colorsBehind)
			}
		}
	}
}
