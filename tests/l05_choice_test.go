package tests

import (
	"fmt"
	"math"
	"slices"
	"sort"
	"testing"

	"loop.example/g00846/impl"
)

// choiceNames are the names of the kinds 0 to 4.
var choiceNames = []string{"fixed", "anycut", "riffle", "anypair", "pick"}

// firstInOrder compares two lists number by number.
func firstInOrder(a []int, b []int) bool {
	for i := range a {
		if i == len(b) || a[i] > b[i] {
			return false
		}
		if a[i] < b[i] {
			return true
		}
	}
	return len(a) < len(b)
}

// inOrder returns the different ones of the lists in lexicographic order: each is put behind all that are before it.
func inOrder(lists [][]int) [][]int {
	var ordered [][]int
	for _, list := range lists {
		at := sort.Search(len(ordered), func(i int) bool { return !firstInOrder(ordered[i], list) })
		if at == len(ordered) || firstInOrder(list, ordered[at]) {
			ordered = slices.Insert(ordered, at, list)
		}
	}
	return ordered
}

// interleaved returns all lists in which the elements of both lists keep their order.
func interleaved(first []int, second []int) [][]int {
	if len(first) == 0 || len(second) == 0 {
		return [][]int{slices.Concat(first, second)}
	}
	var lists [][]int
	for _, rest := range interleaved(first[1:], second) {
		lists = append(lists, append([]int{first[0]}, rest...))
	}
	for _, rest := range interleaved(first, second[1:]) {
		lists = append(lists, append([]int{second[0]}, rest...))
	}
	return lists
}

// waysOfChoice returns what a choice can bring about, by a list of indices for each way, and which elements are turned over.
func waysOfChoice(n int, kind int) (ways [][]int, up int) {
	switch {
	case kind == 0:
		ways = append(ways, order(n))
	case kind == 1, kind == 3 && n >= 2:
		for k := range n {
			ways = append(ways, append(ascending(k, n, 1), ascending(0, k, 1)...))
		}
	case kind == 2:
		for k := range n + 1 {
			ways = append(ways, interleaved(ascending(0, k, 1), ascending(k, n, 1))...)
		}
	case kind == 4:
		for k := range n {
			ways = append(ways, append([]int{k}, append(ascending(0, k, 1), ascending(k+1, n, 1)...)...))
		}
	}
	if kind == 3 {
		up = 3
	}
	return ways, up
}

// chosen returns the results of a choice, or nil if there are none or too many.
func chosen(p []int, kind int) [][]int {
	ways, up := waysOfChoice(len(p), kind)
	if len(p) > 11 && kind == 2 {
		return nil
	}
	from := turned(p, up)
	if up > 0 && len(p) >= 2 {
		from[0], from[1] = from[1], from[0]
	}
	var results [][]int
	for _, way := range ways {
		results = append(results, performed(from, way))
	}
	return inOrder(results)
}

// wantResults checks the two results of a function that gives packets; if ok is false, there are none.
func wantResults(t *testing.T, of string, got [][]int, ok bool, want [][]int, wantOk bool) {
	t.Helper()
	if ok != wantOk || !sameLists(got, want) {
		t.Errorf("%s are %v, %t; want %v, %t", of, got, ok, want, wantOk)
	}
}

type choiceCase struct {
	p    []int
	want [][]int
}

// wantChoice checks ResultsOf for a kind in a table and for packets of each number of cards; want is nil where it fails.
func wantChoice(t *testing.T, kind int, table []choiceCase) {
	t.Helper()
	for n := 1; n <= 12; n++ {
		for _, p := range movePackets(n) {
			table = append(table, choiceCase{p, chosen(p, kind)})
		}
	}
	for _, c := range table {
		of := fmt.Sprintf("the results of choice %d for %v", kind, c.p)
		got, ok := impl.ResultsOf(c.p, kind)
		wantResults(t, of, got, ok, c.want, c.want != nil)
		got, ok = impl.ResultsAfter([][]int{c.p}, kind)
		wantResults(t, of+" in a list", got, ok, c.want, c.want != nil)
		count := len(c.want)
		if c.want == nil {
			count = -1
		}
		if got := impl.CountResults(c.p, kind); got != count {
			t.Errorf("CountResults(%v, %d) = %d, want %d", c.p, kind, got, count)
		}
		// Of very many results, some are enough.
		for i := 0; i < len(c.want); i += 1 + len(c.want)/60 {
			if !impl.IsResult(c.p, kind, c.want[i]) {
				t.Errorf("%v is no result of choice %d for %v", c.want[i], kind, c.p)
			}
		}
	}
}

func TestP2ChoiceNone(t *testing.T) {
	wantChoice(t, impl.ChNone, []choiceCase{
		{[]int{7}, [][]int{{7}}}, {[]int{-8}, [][]int{{-8}}}, {[]int{1, 0}, [][]int{{1, 0}}}, {[]int{5, -8, 6}, [][]int{{5, -8, 6}}}, {upElements, [][]int{upElements}},
		{nil, nil}, {[]int{3, 3}, nil},
	})
}

func TestP2ChoiceCut(t *testing.T) {
	wantChoice(t, impl.ChCut, []choiceCase{
		{[]int{7}, [][]int{{7}}}, {[]int{-8}, [][]int{{-8}}}, {[]int{1, 0}, [][]int{{0, 1}, {1, 0}}}, {[]int{0, -2}, [][]int{{-2, 0}, {0, -2}}},
		{[]int{1, 0, 2}, [][]int{{0, 2, 1}, {1, 0, 2}, {2, 1, 0}}}, {[]int{5, -8, 6, -1}, [][]int{{-8, 6, -1, 5}, {-1, 5, -8, 6}, {5, -8, 6, -1}, {6, -1, 5, -8}}},
		{nil, nil}, {[]int{3, 3}, nil},
	})
}

func TestP2ChoiceRiffle(t *testing.T) {
	wantChoice(t, impl.ChRiffle, []choiceCase{
		{[]int{7}, [][]int{{7}}}, {[]int{-8}, [][]int{{-8}}}, {[]int{1, 0}, [][]int{{0, 1}, {1, 0}}}, {[]int{0, -2}, [][]int{{-2, 0}, {0, -2}}},
		{[]int{0, 1, 2}, [][]int{{0, 1, 2}, {0, 2, 1}, {1, 0, 2}, {1, 2, 0}, {2, 0, 1}}}, {[]int{5, -8, 6}, [][]int{{-8, 5, 6}, {-8, 6, 5}, {5, -8, 6}, {5, 6, -8}, {6, 5, -8}}},
		{[]int{0, 1, 2, 3}, [][]int{{0, 1, 2, 3}, {0, 1, 3, 2}, {0, 2, 1, 3}, {0, 2, 3, 1}, {0, 3, 1, 2}, {1, 0, 2, 3}, {1, 2, 0, 3}, {1, 2, 3, 0}, {2, 0, 1, 3}, {2, 0, 3, 1}, {2, 3, 0, 1}, {3, 0, 1, 2}}},
		{nil, nil}, {[]int{3, 3}, nil}, {downElements, nil}, {upElements, nil},
	})
}

func TestP2ChoicePair(t *testing.T) {
	wantChoice(t, impl.ChPair, []choiceCase{
		{[]int{7}, nil}, {[]int{-8}, nil}, {[]int{1, 0}, [][]int{{-2, -1}, {-1, -2}}}, {[]int{0, -2}, [][]int{{-1, 1}, {1, -1}}}, {[]int{-1, -2}, [][]int{{0, 1}, {1, 0}}},
		{[]int{0, 1, 2}, [][]int{{-2, -1, 2}, {-1, 2, -2}, {2, -2, -1}}}, {[]int{5, -8, 6, -1}, [][]int{{-6, 6, -1, 7}, {-1, 7, -6, 6}, {6, -1, 7, -6}, {7, -6, 6, -1}}},
		{nil, nil}, {[]int{3, 3}, nil},
	})
}

func TestP2ChoicePick(t *testing.T) {
	wantChoice(t, impl.ChPick, []choiceCase{
		{[]int{7}, [][]int{{7}}}, {[]int{-8}, [][]int{{-8}}}, {[]int{1, 0}, [][]int{{0, 1}, {1, 0}}}, {[]int{0, -2}, [][]int{{-2, 0}, {0, -2}}},
		{[]int{0, 1, 2}, [][]int{{0, 1, 2}, {1, 0, 2}, {2, 0, 1}}}, {[]int{5, -8, 6, -1}, [][]int{{-8, 5, 6, -1}, {-1, 5, -8, 6}, {5, -8, 6, -1}, {6, 5, -8, -1}}},
		{nil, nil}, {[]int{3, 3}, nil},
	})
}

func TestP2RifflesKeepTheOrderOfTwoParts(t *testing.T) {
	for n := 1; n <= 7; n++ {
		for _, p := range movePackets(n) {
			var want [][]int
			for _, a := range permsOf(n) {
				for size := range n + 1 {
					first, second := []int{}, []int{}
					for _, x := range a {
						if x < size {
							first = append(first, x)
						} else {
							second = append(second, x)
						}
					}
					if slices.IsSorted(first) && slices.IsSorted(second) {
						want = append(want, performed(p, a))
					}
				}
			}
			got, ok := impl.ResultsOf(p, impl.ChRiffle)
			wantResults(t, fmt.Sprintf("the riffles of %v", p), got, ok, inOrder(want), true)
		}
	}
}

func TestP2NumbersOfResults(t *testing.T) {
	for n := 1; n <= 12; n++ {
		counts := []int{1, n, 1<<n - n, n, n}
		if n == 1 {
			counts[impl.ChPair] = -1
		}
		if counts[impl.ChRiffle] > 3000 {
			counts[impl.ChRiffle] = -1
		}
		for _, p := range movePackets(n) {
			for kind, want := range counts {
				if got := impl.CountResults(p, kind); got != want {
					t.Errorf("CountResults(%v, %d) = %d, want %d", p, kind, got, want)
				}
			}
		}
	}
}

func TestP2ResultsHaveTheSameCards(t *testing.T) {
	for n := 1; n <= 12; n++ {
		for _, p := range movePackets(n) {
			for kind := range 5 {
				results, _ := impl.ResultsOf(p, kind)
				for i, q := range results {
					if !impl.IsArrangement(p, q) {
						t.Fatalf("%v is a result of choice %d for %v", q, kind, p)
					}
					if i > 0 && !firstInOrder(results[i-1], q) {
						t.Fatalf("%v comes before %v as a result of choice %d for %v", results[i-1], q, kind, p)
					}
				}
			}
		}
	}
}

func TestP2ResultsAfterAreTheResultsOfEach(t *testing.T) {
	var list [][]int
	for n := 2; n <= 6; n++ {
		for _, p := range movePackets(n) {
			// Some come again, and there are packets of several lengths and with several cards.
			list = append(list, p, movePackets(n)[4])
		}
	}
	for kind := range 5 {
		var want [][]int
		for i, p := range list {
			want = append(want, chosen(p, kind)...)
			got, ok := impl.ResultsAfter(list[:i+1], kind)
			wantResults(t, fmt.Sprintf("the results of choice %d after %v", kind, list[:i+1]), got, ok, inOrder(want), true)
		}
	}
}

func TestP2ResultsAfterTwoChoices(t *testing.T) {
	for _, p := range [][]int{{0, 1}, {5, -8, 6}, {0, 1, 2, 3}, {11, -11, -4, 0}} {
		for first := range 5 {
			for second := range 5 {
				var want [][]int
				for _, q := range chosen(p, first) {
					want = append(want, chosen(q, second)...)
				}
				once, _ := impl.ResultsOf(p, first)
				got, ok := impl.ResultsAfter(once, second)
				wantResults(t, fmt.Sprintf("the results of the choices %d and %d for %v", first, second, p), got, ok, inOrder(want), true)
			}
		}
	}
}

func TestP9NumbersOfChoices(t *testing.T) {
	kinds := []int{impl.ChNone, impl.ChCut, impl.ChRiffle, impl.ChPair, impl.ChPick}
	if !slices.Equal(kinds, []int{0, 1, 2, 3, 4}) || impl.MaxResults != 3000 {
		t.Errorf("the kinds are %v, and MaxResults is %d", kinds, impl.MaxResults)
	}
}

func TestP9ChoiceName(t *testing.T) {
	for kind, name := range choiceNames {
		if got := impl.ChoiceName(kind); got != name {
			t.Errorf("ChoiceName(%d) = %q, want %q", kind, got, name)
		}
	}
	for _, kind := range append([]int{5, 6, 7, 8, 9, 10, 11, 12}, farNumbers...) {
		if got := impl.ChoiceName(kind); got != "" {
			t.Errorf("ChoiceName(%d) = %q", kind, got)
		}
	}
}

// wantNoResults checks that there are no results of a choice for a packet.
func wantNoResults(t *testing.T, p []int, kind int) {
	t.Helper()
	got, ok := impl.ResultsOf(p, kind)
	wantResults(t, fmt.Sprintf("the results of choice %d for %v", kind, p), got, ok, nil, false)
	if got := impl.CountResults(p, kind); got != -1 {
		t.Errorf("CountResults(%v, %d) = %d", p, kind, got)
	}
	if impl.IsResult(p, kind, p) || impl.IsResult(p, kind, nil) || impl.IsResult(p, kind, []int{0}) {
		t.Errorf("there is a result of choice %d for %v", kind, p)
	}
	for _, list := range [][][]int{{p}, {p, p}, {{0, 1}, p}, {p, {0, 1}}, {{0, 1}, p, {1, 0}}} {
		got, ok := impl.ResultsAfter(list, kind)
		wantResults(t, fmt.Sprintf("the results of choice %d after %v", kind, list), got, ok, nil, false)
	}
}

func TestP9NoResults(t *testing.T) {
	for _, p := range noPackets {
		for kind := -1; kind <= 5; kind++ {
			wantNoResults(t, p, kind)
		}
	}
	for _, p := range [][]int{{7}, {-8}, {5, -8}, {0, 1, 2, 3, 4}, upElements} {
		for _, kind := range append(ascending(5, 13, 1), farNumbers...) {
			wantNoResults(t, p, kind)
		}
	}
	for _, x := range slices.Concat(downElements, upElements) {
		wantNoResults(t, []int{x}, impl.ChPair)
	}
	for _, p := range movePackets(12) {
		wantNoResults(t, p, impl.ChRiffle)
	}
}

func TestP9IsResult(t *testing.T) {
	elements := []int{0, 1, 2, 11, -1, -2, -3, 12}
	lists := append(listsOver(elements, 4), noPackets...)
	for _, p := range [][]int{{0}, {-3}, {0, 1}, {1, -1}, {2, 0, 1}, {-1, 1, -3}, {0, -2, 2, 11}} {
		for kind := range 5 {
			results := chosen(p, kind)
			for _, q := range lists {
				want := slices.ContainsFunc(results, func(r []int) bool { return slices.Equal(r, q) })
				if got := impl.IsResult(p, kind, q); got != want {
					t.Errorf("IsResult(%v, %d, %v) = %t", p, kind, q, got)
				}
			}
		}
	}
	for _, c := range []struct {
		p    []int
		kind int
		q    []int
		want bool
	}{
		{[]int{0, 1}, impl.ChCut, []int{1, 0}, true}, {[]int{0, 1}, impl.ChNone, []int{1, 0}, false}, {[]int{0, 1}, impl.ChCut, []int{0, 1}, true}, {[]int{0, 1}, impl.ChPair, []int{0, 1}, false},
		{[]int{0, 1, 2}, impl.ChRiffle, []int{2, 1, 0}, false}, {[]int{0, 1, 2}, impl.ChCut, []int{0, 1}, false}, {[]int{0, 1}, impl.ChCut, []int{0, 1, 2}, false}, {[]int{0, 1}, impl.ChCut, repeated(0, 5000), false},
		{[]int{0, 1}, impl.ChCut, []int{math.MaxInt64}, false}, {[]int{0, 1}, impl.ChCut, []int{math.MinInt64, 0}, false},
		{downElements[:11], impl.ChRiffle, []int{6, 0, 7, 1, 8, 2, 9, 3, 10, 4, 5}, true}, {downElements[:11], impl.ChRiffle, []int{6, 0, 7, 1, 8, 2, 9, 3, 10, 5, 4}, false},
		{downElements, impl.ChRiffle, downElements, false},
	} {
		if got := impl.IsResult(c.p, c.kind, c.q); got != c.want {
			t.Errorf("IsResult(%v, %d, %v) = %t", c.p, c.kind, c.q, got)
		}
	}
}

// manyPackets returns n different packets of 12 cards, none of which is another one cut.
func manyPackets(n int) [][]int {
	var packets [][]int
	for _, a := range permsOf(7) {
		if len(packets) == n {
			break
		}
		packets = append(packets, append([]int{-8, 8, 9, -11, 11}, a...))
	}
	return packets
}

func TestP9ResultsAfterUpToMaxResults(t *testing.T) {
	few := [][]int{downElements[:11], upElements[:9], downElements[:8], downElements[:7], upElements[:6], downElements[:5], {5, -8, 6}, {4}}
	for _, c := range []struct {
		list [][]int
		kind int
		want int
	}{
		{manyPackets(2999), impl.ChNone, 2999}, {manyPackets(3000), impl.ChNone, 3000}, {manyPackets(3001), impl.ChNone, -1}, {manyPackets(5000), impl.ChNone, -1},
		{manyPackets(250), impl.ChCut, 3000}, {manyPackets(251), impl.ChCut, -1}, {manyPackets(250), impl.ChPair, 3000}, {manyPackets(251), impl.ChPair, -1}, {manyPackets(3000), impl.ChPick, -1},
		// Each number of riffles is 2 to the power of the number of cards, minus it: 2037, 503, 248, 121, 58, 27, 5 and 1.
		{few, impl.ChRiffle, 3000}, {append(slices.Clone(few), []int{-5}), impl.ChRiffle, -1}, {append(slices.Clone(few), []int{4}), impl.ChRiffle, 3000},
		// The second packet has results of its own, although each of both has few enough.
		{[][]int{downElements[:11], upElements[:11]}, impl.ChRiffle, -1}, {[][]int{{0, 1}, downElements}, impl.ChRiffle, -1},
		// What comes again is not counted again.
		{append(manyPackets(3000), manyPackets(3000)...), impl.ChNone, 3000}, {slices.Repeat(manyPackets(250), 5), impl.ChCut, 3000}, {slices.Repeat([][]int{downElements[:11]}, 5000), impl.ChRiffle, 2037},
	} {
		got, ok := impl.ResultsAfter(c.list, c.kind)
		if ok != (c.want >= 0) || len(got) != max(c.want, 0) {
			t.Errorf("%d packets have %d results of choice %d, %t; want %d", len(c.list), len(got), c.kind, ok, c.want)
		}
	}
}

func TestP9ResultsAfterNoPackets(t *testing.T) {
	for _, list := range [][][]int{nil, {}} {
		for _, kind := range append(ascending(0, 6, 1), farNumbers...) {
			got, ok := impl.ResultsAfter(list, kind)
			wantResults(t, fmt.Sprintf("the results of choice %d after no packets", kind), got, ok, nil, true)
		}
	}
}

func TestP9ResultsAfter(t *testing.T) {
	for _, c := range []struct {
		list [][]int
		kind int
		want [][]int
	}{
		{[][]int{{0, 1}, {1, 0}}, impl.ChCut, [][]int{{0, 1}, {1, 0}}}, {[][]int{{0, 1}, {}}, impl.ChCut, nil}, {[][]int{{}}, impl.ChNone, nil}, {[][]int{{0, 1}, {2, 2}}, impl.ChCut, nil},
		{[][]int{{3, 1}, {-9}, {3, 1}, {1}}, impl.ChNone, [][]int{{-9}, {1}, {3, 1}}}, {[][]int{{3, 1}, {-9}}, impl.ChCut, [][]int{{-9}, {1, 3}, {3, 1}}}, {[][]int{{3, 1}, {-9}}, impl.ChPair, nil},
		{[][]int{{0, 1}, {-2, -1}}, impl.ChPair, [][]int{{-2, -1}, {-1, -2}, {0, 1}, {1, 0}}}, {[][]int{{2, 1, 0}, {2}}, impl.ChPick, [][]int{{0, 2, 1}, {1, 2, 0}, {2}, {2, 1, 0}}},
		{[][]int{{0, 1, 2}, {1, 2, 0}}, impl.ChRiffle, [][]int{{0, 1, 2}, {0, 2, 1}, {1, 0, 2}, {1, 2, 0}, {2, 0, 1}, {2, 1, 0}}}, {[][]int{{0, 1}}, 5, nil}, {[][]int{{0, 1}}, -1, nil},
	} {
		got, ok := impl.ResultsAfter(c.list, c.kind)
		wantResults(t, fmt.Sprintf("the results of choice %d after %v", c.kind, c.list), got, ok, c.want, c.want != nil)
	}
}

func TestP9ResultsAfterKeepPacketsApart(t *testing.T) {
	// All packets of one and of two cards, and long ones that differ in one side or in two cards.
	var list [][]int
	for _, p := range listsOver(slices.Concat(downElements, upElements), 2) {
		if len(p) > 0 && tableOk(p) {
			list = append(list, p)
		}
	}
	for i := range 12 {
		for n := i + 1; n <= 12; n++ {
			list = append(list, turned(downElements, 1<<i)[:n], turned(upElements, 1<<i)[:n])
		}
		for j := range i {
			p := slices.Clone(upElements)
			p[i], p[j] = p[j], p[i]
			list = append(list, p)
		}
	}
	got, ok := impl.ResultsAfter(list, impl.ChNone)
	wantResults(t, "the results of ChNone", got, ok, inOrder(list), true)
}

func TestP9ResultsAfterFailsAtEachIndex(t *testing.T) {
	for _, bad := range noPackets {
		for _, n := range []int{1, 2, 5, 40} {
			for i := range n {
				list := slices.Repeat([][]int{{0, 1, 2}, {2, -2}}, n)[:n]
				list[i] = bad
				for kind := range 5 {
					got, ok := impl.ResultsAfter(list, kind)
					wantResults(t, fmt.Sprintf("the results of choice %d after %v", kind, list), got, ok, nil, false)
				}
			}
		}
	}
	// A later packet that fails is found although there are too many results before it, and the other way round.
	for _, list := range [][][]int{append(manyPackets(4000), []int{0, 0}), append([][]int{{0, 0}}, manyPackets(4000)...)} {
		got, ok := impl.ResultsAfter(list, impl.ChCut)
		wantResults(t, "the results of ChCut", got, ok, nil, false)
	}
}

func TestP9SortPackets(t *testing.T) {
	for _, c := range []struct{ list, want [][]int }{
		{nil, nil}, {[][]int{}, nil}, {[][]int{nil}, [][]int{{}}}, {[][]int{{}, nil, {}}, [][]int{{}}}, {[][]int{{3}}, [][]int{{3}}}, {[][]int{{3}, {3}, {3}}, [][]int{{3}}},
		{[][]int{{2, 1}, {0}, {2, 1}, {-1, 3}}, [][]int{{-1, 3}, {0}, {2, 1}}},
		// A proper prefix comes first.
		{[][]int{{1, 2, 3}, {1, 2}, {1}, {}}, [][]int{{}, {1}, {1, 2}, {1, 2, 3}}}, {[][]int{{1, -2}, {1, 0}, {1}, {0, 11}}, [][]int{{0, 11}, {1}, {1, -2}, {1, 0}}},
		// Numbers and not their texts are compared.
		{[][]int{{10}, {9}, {-1}, {-2}, {-10}, {2}}, [][]int{{-10}, {-2}, {-1}, {2}, {9}, {10}}},
		// The elements need not be packets.
		{[][]int{{12}, {3, 3}, {math.MaxInt64}, {math.MinInt64}, {3, 3}, {-13}}, [][]int{{math.MinInt64}, {-13}, {3, 3}, {12}, {math.MaxInt64}}},
		{[][]int{repeated(0, 30), repeated(0, 13), repeated(0, 30), repeated(0, 12)}, [][]int{repeated(0, 12), repeated(0, 13), repeated(0, 30)}},
	} {
		if got := impl.SortPackets(c.list); !sameLists(got, c.want) {
			t.Errorf("SortPackets(%v) = %v, want %v", c.list, got, c.want)
		}
	}
}

func TestP9SortPacketsOfAnyOrder(t *testing.T) {
	lists := [][]int{nil, {0}, {-1}, {0, 1}, {0, -2}, {1, 0}, {-1, 1}}
	want := inOrder(lists)
	for _, a := range permsOf(7) {
		mixed := make([][]int, 0, 9)
		for _, x := range a {
			mixed = append(mixed, lists[x])
		}
		// Two come again.
		mixed = append(mixed, lists[a[2]], lists[a[0]])
		if got := impl.SortPackets(mixed); !sameLists(got, want) {
			t.Fatalf("SortPackets(%v) = %v, want %v", mixed, got, want)
		}
	}
	many := listsOver(fewElements, 3)
	want = inOrder(many)
	slices.Reverse(many)
	if got := impl.SortPackets(append(many, many...)); !sameLists(got, want) {
		t.Errorf("%d lists are %d sorted ones", len(many), len(got))
	}
	if got := impl.SortPackets(manyPackets(5000)); len(got) != 5000 {
		t.Errorf("5000 packets are %d sorted ones", len(got))
	}
}

// spoil writes to each list and behind it. If two of them share memory, one of them is no longer as it is left here.
func spoil(t *testing.T, of string, lists [][]int) {
	t.Helper()
	for i, list := range lists {
		list = list[:cap(list)]
		for j := range list {
			list[j] = 1000 + i
		}
	}
	for i, list := range lists {
		for _, x := range list[:cap(list)] {
			if x != 1000+i {
				t.Fatalf("%s share memory", of)
			}
		}
	}
}

func TestP9ResultsAreNew(t *testing.T) {
	for n := 1; n <= 9; n++ {
		for _, from := range movePackets(n) {
			behind := append(slices.Clone(from), 97, 98, 99)
			before := slices.Clone(behind)
			p := behind[:n]
			list := append(make([][]int, 0, 9), p, p, slices.Clone(p))
			for kind := range 5 {
				want := chosen(from, kind)
				for range 2 {
					of := fmt.Sprintf("the results of choice %d for %v", kind, p)
					one, ok := impl.ResultsOf(p, kind)
					wantResults(t, of, one, ok, want, want != nil)
					each, ok := impl.ResultsAfter(list, kind)
					wantResults(t, of, each, ok, want, want != nil)
					sorted := impl.SortPackets(list)
					if !sameLists(sorted, [][]int{from}) {
						t.Fatalf("SortPackets(%v) = %v", list, sorted)
					}
					if len(want) > 0 && (impl.CountResults(p, kind) != len(want) || !impl.IsResult(p, kind, want[0])) {
						t.Fatalf("%s are not counted or found", of)
					}
					spoil(t, of, slices.Concat(one, each, sorted))
					if !slices.Equal(behind, before) || !sameLists(list, [][]int{from, from, from}) || list[:4][3] != nil {
						t.Fatalf("%v and %v have become %v and %v by choice %d", before, from, behind, list, kind)
					}
				}
			}
		}
	}
}

func TestP9ListsOfPacketsAreNotChanged(t *testing.T) {
	for kind := range 5 {
		list := [][]int{{2, 1}, {1, 0, 2}, {2, 1}, {-1, 3}, {0, 1}, {9}, nil}
		before := slices.Clone(list)
		impl.SortPackets(list)
		impl.SortPackets(list[:4])
		impl.ResultsAfter(list, kind)
		impl.ResultsAfter(list[:5], kind)
		impl.IsResult(list[1], kind, list[0])
		if !sameLists(list, before) || !sameLists(list, [][]int{{2, 1}, {1, 0, 2}, {2, 1}, {-1, 3}, {0, 1}, {9}, {}}) {
			t.Errorf("the list has become %v by choice %d", list, kind)
		}
	}
}
