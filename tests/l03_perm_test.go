package tests

import (
	"math"
	"slices"
	"testing"

	"loop.example/g00846/impl"
)

// permsOf returns all permutations of n positions in lexicographic order.
func permsOf(n int) [][]int {
	perms := [][]int{{}}
	for range n {
		var longer [][]int
		for _, a := range perms {
			for x := range n {
				if !slices.Contains(a, x) {
					longer = append(longer, append(slices.Clone(a), x))
				}
			}
		}
		perms = longer
	}
	return perms
}

// permsUpTo returns all permutations of at most n positions.
func permsUpTo(n int) [][]int {
	var perms [][]int
	for i := range n + 1 {
		perms = append(perms, permsOf(i)...)
	}
	return perms
}

// longPerms are permutations of 7 to 12 positions with cycles of many lengths.
var longPerms = [][]int{
	{1, 2, 3, 4, 5, 6, 0},
	{1, 0, 3, 4, 2, 6, 5},
	{7, 6, 5, 4, 3, 2, 1, 0},
	{1, 2, 0, 4, 5, 6, 7, 3, 8},
	{3, 7, 0, 9, 1, 4, 2, 8, 6, 5},
	{1, 2, 3, 4, 0, 6, 7, 8, 9, 5, 10},
	{0, 1, 2, 3, 4, 5, 6, 7, 8, 9, 10, 11},
	{11, 10, 9, 8, 7, 6, 5, 4, 3, 2, 1, 0},
	{11, 0, 1, 2, 3, 4, 5, 6, 7, 8, 9, 10},
	{1, 2, 0, 4, 5, 6, 3, 8, 9, 10, 11, 7},
	{1, 0, 3, 4, 2, 6, 7, 8, 9, 10, 11, 5},
	{5, 11, 4, 10, 3, 9, 2, 8, 1, 7, 0, 6},
	{0, 11, 1, 10, 2, 9, 3, 8, 4, 7, 5, 6},
}

// noPerms are lists that are no permutations: a number twice, one out of range, or more than MaxCards positions.
var noPerms = [][]int{
	{1}, {-1}, {12}, {math.MaxInt64}, {math.MinInt64}, {0, 0}, {1, 1}, {0, 2}, {2, 0}, {1, 2}, {-1, 0}, {0, -1}, {-1, -2}, {-2, 1}, {1, 0, 1}, {0, 2, 2}, {0, 1, 3},
	{3, 1, 2, 0, 3}, {0, 1, 2, 3, 4, 5, 6, 7, 8, 9, 10, 12}, {0, 1, 2, 3, 4, 5, 6, 7, 8, 9, 10, 10}, {1, 2, 3, 4, 5, 6, 7, 8, 9, 10, 11, 12}, {0, 1, 2, 3, 4, 5, 6, 7, 8, 9, 10, -12},
	{0, 1, 2, 3, 4, 5, 6, 7, 8, 9, 10, 11, 12}, {12, 11, 10, 9, 8, 7, 6, 5, 4, 3, 2, 1, 0}, {0, 1, 2, 3, 4, 5, 6, 7, 8, 9, 10, 11, 0},
	{0, 1, 2, 3, 4, 5, 6, 7, 8, 9, 10, 11, 12, 13}, {1 << 32}, {1<<32 + 1, 0}, repeated(0, 12), repeated(0, 13), repeated(0, 5000), upElements,
}

// performed returns the list that arises when the card at position a[i] is put at position i, for each i.
func performed(list []int, a []int) []int {
	after := make([]int, len(list))
	for i := range after {
		after[i] = list[a[i]]
	}
	return after
}

// order returns the numbers 0 up to n.
func order(n int) []int {
	numbers := make([]int, n)
	for i := range numbers {
		numbers[i] = i
	}
	return numbers
}

// wantPerm checks the two results of a function that gives a permutation or a packet, or, if want is nil, none.
func wantPerm(t *testing.T, of string, got []int, ok bool, want []int) {
	t.Helper()
	if ok != (want != nil) || !slices.Equal(got, want) {
		t.Errorf("%s is %v, %t; want %v, %t", of, got, ok, want, want != nil)
	}
}

// composed returns what ComposePerms returns for two valid permutations of equal length.
func composed(t *testing.T, a []int, b []int) []int {
	t.Helper()
	c, ok := impl.ComposePerms(a, b)
	if !ok || !impl.PermOk(c) || len(c) != len(a) {
		t.Errorf("%v and %v are composed to %v, %t", a, b, c, ok)
	}
	return c
}

func TestP1ComposedPermsAreAssociative(t *testing.T) {
	perms := permsOf(4)
	for n := range 4 {
		perms = append(perms, permsOf(n)...)
	}
	for _, list := range [][][]int{perms, longPerms} {
		for _, a := range list {
			for _, b := range list {
				if len(a) != len(b) {
					continue
				}
				for _, c := range list {
					if len(c) == len(b) && !slices.Equal(composed(t, composed(t, a, b), c), composed(t, a, composed(t, b, c))) {
						t.Errorf("%v, %v and %v are not associative", a, b, c)
					}
				}
			}
		}
	}
}

func TestP1IdentityAndInverseOfPerms(t *testing.T) {
	for _, a := range append(permsUpTo(6), longPerms...) {
		one := impl.IdentityPerm(len(a))
		if !slices.Equal(composed(t, a, one), a) || !slices.Equal(composed(t, one, a), a) {
			t.Errorf("the identity changes %v", a)
		}
		b, ok := impl.InversePerm(a)
		if !ok || !slices.Equal(composed(t, a, b), one) || !slices.Equal(composed(t, b, a), one) {
			t.Errorf("%v, %t does not undo %v", b, ok, a)
		}
		if c, ok := impl.InversePerm(b); !ok || !slices.Equal(c, a) {
			t.Errorf("the inverse of %v is %v, %t, and not %v", b, c, ok, a)
		}
	}
}

func TestP1InverseOfComposedPermsIsReversed(t *testing.T) {
	for _, a := range permsOf(5) {
		for _, b := range permsOf(5)[40:60] {
			c, _ := impl.InversePerm(composed(t, a, b))
			undoA, _ := impl.InversePerm(a)
			undoB, _ := impl.InversePerm(b)
			if !slices.Equal(c, composed(t, undoB, undoA)) {
				t.Errorf("%v does not undo %v and then %v", c, a, b)
			}
		}
	}
}

func TestP1ArrangingRecoversThePacket(t *testing.T) {
	for _, a := range append(permsUpTo(5), longPerms...) {
		undo, _ := impl.InversePerm(a)
		for _, p := range [][]int{downElements[:len(a)], upElements[12-len(a):], turned(downElements, 0x5a5)[:len(a)]} {
			q, ok := impl.ArrangeBy(p, a)
			back, backOk := impl.ArrangeBy(q, undo)
			if !ok || !backOk || !slices.Equal(back, p) {
				t.Errorf("%v arranged by %v and by %v is %v, %v", p, a, undo, q, back)
			}
			if b, ok := impl.PermBetween(p, q); !ok || !slices.Equal(b, a) {
				t.Errorf("between %v and %v is %v, %t; want %v", p, q, b, ok, a)
			}
		}
	}
}

func TestP1ComposedPermArrangesAsBothDo(t *testing.T) {
	for n := range 5 {
		p := turned(downElements[:n], 5)
		for _, a := range permsOf(n) {
			for _, b := range permsOf(n) {
				want := performed(performed(p, a), b)
				got, ok := impl.ArrangeBy(p, composed(t, a, b))
				wantPerm(t, "the packet arranged by both", got, ok, want)
				c, ok := impl.PermBetween(p, want)
				wantPerm(t, "the permutation of both", c, ok, composed(t, a, b))
			}
		}
	}
}

func TestP9PermOk(t *testing.T) {
	for _, a := range append(permsUpTo(5), append(longPerms, nil)...) {
		if !impl.PermOk(a) {
			t.Errorf("PermOk(%v) is false", a)
		}
	}
	for _, a := range noPerms {
		if impl.PermOk(a) {
			t.Errorf("PermOk(%v) is true", a)
		}
	}
	perms := permsUpTo(4)
	for _, a := range listsOver([]int{-2, -1, 0, 1, 2, 3, 4}, 4) {
		isPerm := slices.ContainsFunc(perms, func(b []int) bool { return slices.Equal(a, b) })
		if impl.PermOk(a) != isPerm {
			t.Errorf("PermOk(%v) = %t", a, !isPerm)
		}
	}
	for i := range 12 {
		for x := -2; x < 15; x++ {
			a := order(12)
			a[i] = x
			if impl.PermOk(a) != (x == i) {
				t.Errorf("PermOk(%v) = %t", a, x != i)
			}
		}
	}
}

func TestP9IdentityPerm(t *testing.T) {
	for n := range 13 {
		if got := impl.IdentityPerm(n); !slices.Equal(got, order(n)) || !impl.PermOk(got) {
			t.Errorf("IdentityPerm(%d) = %v", n, got)
		}
	}
	for _, n := range []int{-1, -2, -12, -13, math.MinInt64, 13, 14, 100, 1 << 40, math.MaxInt64} {
		if got := impl.IdentityPerm(n); len(got) != 0 {
			t.Errorf("IdentityPerm(%d) = %v", n, got)
		}
	}
}

func TestP9ComposePerms(t *testing.T) {
	for _, c := range []struct{ a, b, want []int }{
		{nil, nil, []int{}}, {[]int{}, nil, []int{}}, {[]int{0}, []int{0}, []int{0}}, {[]int{1, 0}, []int{1, 0}, []int{0, 1}},
		{[]int{1, 2, 0}, []int{0, 2, 1}, []int{1, 0, 2}}, {[]int{0, 2, 1}, []int{1, 2, 0}, []int{2, 1, 0}},
		{[]int{3, 7, 0, 9, 1, 4, 2, 8, 6, 5}, []int{9, 0, 1, 2, 3, 4, 5, 6, 7, 8}, []int{5, 3, 7, 0, 9, 1, 4, 2, 8, 6}},
		// Lengths that differ, also where one is the beginning of the other.
		{nil, []int{0}, nil}, {[]int{0}, nil, nil}, {[]int{0, 1}, []int{0, 1, 2}, nil}, {[]int{0, 1, 2}, []int{1, 0}, nil}, {order(12), order(11), nil}, {order(11), order(12), nil},
		{order(12), order(13), nil}, {order(13), order(12), nil}, {order(13), order(13), nil},
	} {
		got, ok := impl.ComposePerms(c.a, c.b)
		wantPerm(t, "the composed one", got, ok, c.want)
	}
	for _, no := range noPerms {
		for _, other := range [][]int{no, nil, order(len(no)), order(1), order(12)} {
			got, ok := impl.ComposePerms(no, other)
			wantPerm(t, "composed with what is none", got, ok, nil)
			got, ok = impl.ComposePerms(other, no)
			wantPerm(t, "composed with what is none", got, ok, nil)
		}
	}
	for _, a := range permsUpTo(4) {
		for _, b := range permsUpTo(4) {
			var want []int
			if len(a) == len(b) {
				want = performed(a, b)
			}
			got, ok := impl.ComposePerms(a, b)
			wantPerm(t, "the composed one", got, ok, want)
		}
	}
}

func TestP9InversePerm(t *testing.T) {
	for _, c := range []struct{ a, want []int }{
		{nil, []int{}}, {[]int{}, []int{}}, {[]int{0}, []int{0}}, {[]int{1, 2, 0}, []int{2, 0, 1}}, {order(12), order(12)}, {[]int{1, 3, 0, 2}, []int{2, 0, 3, 1}},
		{[]int{3, 7, 0, 9, 1, 4, 2, 8, 6, 5}, []int{2, 4, 6, 0, 5, 9, 8, 1, 7, 3}},
	} {
		got, ok := impl.InversePerm(c.a)
		wantPerm(t, "the inverse", got, ok, c.want)
	}
	for _, no := range noPerms {
		got, ok := impl.InversePerm(no)
		wantPerm(t, "the inverse of what is none", got, ok, nil)
	}
	for _, a := range append(permsUpTo(6), longPerms...) {
		want := make([]int, len(a))
		for i := range want {
			want[i] = slices.Index(a, i)
		}
		got, ok := impl.InversePerm(a)
		wantPerm(t, "the inverse", got, ok, want)
	}
}

func TestP9PowerPerm(t *testing.T) {
	for _, c := range []struct {
		a    []int
		k    int
		want []int
	}{
		{nil, 0, []int{}}, {nil, 1000, []int{}}, {nil, 1001, nil}, {nil, -1, nil}, {[]int{0}, 0, []int{0}}, {[]int{0}, 1000, []int{0}},
		{[]int{1, 2, 0}, 0, []int{0, 1, 2}}, {[]int{1, 2, 0}, 1, []int{1, 2, 0}}, {[]int{1, 2, 0}, 2, []int{2, 0, 1}}, {[]int{1, 2, 0}, 3, []int{0, 1, 2}},
		{[]int{1, 2, 0}, 999, []int{0, 1, 2}}, {[]int{1, 2, 0}, 1000, []int{1, 2, 0}}, {[]int{1, 2, 0}, 1001, nil}, {[]int{1, 2, 0}, -1, nil},
		{[]int{1, 2, 0}, math.MaxInt64, nil}, {[]int{1, 2, 0}, math.MinInt64, nil}, {[]int{1, 2, 0}, 1 << 32, nil}, {[]int{1, 2, 0}, 1<<32 + 1, nil},
	} {
		got, ok := impl.PowerPerm(c.a, c.k)
		wantPerm(t, "the power", got, ok, c.want)
	}
	for _, no := range noPerms {
		for _, k := range []int{-1, 0, 1, 2, 1000, 1001} {
			got, ok := impl.PowerPerm(no, k)
			wantPerm(t, "the power of what is none", got, ok, nil)
		}
	}
	for _, a := range append(permsUpTo(4), longPerms...) {
		want := order(len(a))
		for k := range 1001 {
			got, ok := impl.PowerPerm(a, k)
			wantPerm(t, "the power", got, ok, want)
			want = performed(want, a)
		}
	}
}

func TestP9OrderOfPerm(t *testing.T) {
	for _, c := range []struct {
		a    []int
		want int
	}{
		{nil, 1}, {[]int{}, 1}, {[]int{0}, 1}, {[]int{1, 0}, 2}, {order(12), 1}, {[]int{1, 2, 0, 4, 3}, 6}, {[]int{1, 0, 3, 2}, 2}, {[]int{1, 2, 3, 0, 5, 4}, 4},
		{[]int{1, 2, 3, 0, 5, 6, 7, 8, 9, 4}, 12}, {[]int{1, 2, 0, 4, 5, 6, 3, 8, 9, 10, 11, 7}, 60}, {[]int{1, 2, 3, 4, 5, 6, 0, 8, 9, 10, 11, 7}, 35}, {[]int{11, 0, 1, 2, 3, 4, 5, 6, 7, 8, 9, 10}, 12},
	} {
		if got := impl.OrderOfPerm(c.a); got != c.want {
			t.Errorf("OrderOfPerm(%v) = %d, want %d", c.a, got, c.want)
		}
	}
	for _, no := range noPerms {
		if got := impl.OrderOfPerm(no); got != 0 {
			t.Errorf("OrderOfPerm(%v) = %d", no, got)
		}
	}
	for _, a := range append(permsUpTo(7), longPerms...) {
		want := 1
		for b := a; !slices.Equal(b, order(len(a))); b = performed(b, a) {
			want++
		}
		if got := impl.OrderOfPerm(a); got != want {
			t.Errorf("OrderOfPerm(%v) = %d, want %d", a, got, want)
		}
	}
}

// sameLists reports whether two lists of lists are equal; empty lists and nil are.
func sameLists(a [][]int, b [][]int) bool { return slices.EqualFunc(a, b, slices.Equal[[]int]) }

func TestP9CyclesOf(t *testing.T) {
	for _, c := range []struct {
		a    []int
		want [][]int
	}{
		{nil, nil}, {[]int{}, nil}, {[]int{0}, [][]int{{0}}}, {[]int{0, 1, 2}, [][]int{{0}, {1}, {2}}}, {[]int{1, 0}, [][]int{{0, 1}}}, {[]int{2, 0, 1}, [][]int{{0, 2, 1}}},
		{[]int{1, 2, 0, 4, 3}, [][]int{{0, 1, 2}, {3, 4}}}, {[]int{0, 3, 2, 1}, [][]int{{0}, {1, 3}, {2}}}, {[]int{3, 7, 0, 9, 1, 4, 2, 8, 6, 5}, [][]int{{0, 3, 9, 5, 4, 1, 7, 8, 6, 2}}},
		{[]int{11, 10, 9, 8, 7, 6, 5, 4, 3, 2, 1, 0}, [][]int{{0, 11}, {1, 10}, {2, 9}, {3, 8}, {4, 7}, {5, 6}}}, {[]int{11, 0, 1, 2, 3, 4, 5, 6, 7, 8, 9, 10}, [][]int{{0, 11, 10, 9, 8, 7, 6, 5, 4, 3, 2, 1}}},
	} {
		if got := impl.CyclesOf(c.a); !sameLists(got, c.want) {
			t.Errorf("CyclesOf(%v) = %v, want %v", c.a, got, c.want)
		}
	}
	for _, no := range noPerms {
		if got := impl.CyclesOf(no); len(got) != 0 {
			t.Errorf("CyclesOf(%v) = %v", no, got)
		}
	}
}

func TestP9CyclesOfHaveEachPositionOnce(t *testing.T) {
	for _, a := range append(permsUpTo(7), longPerms...) {
		cycles := impl.CyclesOf(a)
		least := -1
		for _, cycle := range cycles {
			// Each begins with its least position, and they are in the order of these.
			if len(cycle) == 0 || cycle[0] != slices.Min(cycle) || cycle[0] <= least {
				t.Fatalf("CyclesOf(%v) = %v", a, cycles)
			}
			least = cycle[0]
			for i, x := range cycle {
				if a[x] != cycle[(i+1)%len(cycle)] {
					t.Errorf("%d is not followed by %d in CyclesOf(%v) = %v", x, a[x], a, cycles)
				}
			}
		}
		if all := slices.Sorted(slices.Values(slices.Concat(cycles...))); !slices.Equal(all, order(len(a))) {
			t.Errorf("CyclesOf(%v) = %v", a, cycles)
		}
	}
}

func TestP9IsEven(t *testing.T) {
	for _, c := range []struct {
		a    []int
		want bool
	}{
		{nil, true}, {[]int{}, true}, {[]int{0}, true}, {[]int{1, 0}, false}, {[]int{1, 2, 0}, true}, {[]int{1, 2, 0, 4, 3}, false}, {[]int{1, 0, 3, 2}, true}, {order(12), true},
		{[]int{11, 0, 1, 2, 3, 4, 5, 6, 7, 8, 9, 10}, false}, {[]int{11, 10, 9, 8, 7, 6, 5, 4, 3, 2, 1, 0}, true},
	} {
		if got := impl.IsEven(c.a); got != c.want {
			t.Errorf("IsEven(%v) = %t", c.a, got)
		}
	}
	for _, no := range noPerms {
		if impl.IsEven(no) {
			t.Errorf("IsEven(%v) is true", no)
		}
	}
	// A permutation is even if and only if the number of pairs that stand in the wrong order is even.
	for _, a := range append(permsUpTo(7), longPerms...) {
		wrong := 0
		for i, x := range a {
			for _, y := range a[:i] {
				if y > x {
					wrong++
				}
			}
		}
		if got := impl.IsEven(a); got != (wrong%2 == 0) {
			t.Errorf("IsEven(%v) = %t with %d pairs in the wrong order", a, got, wrong)
		}
	}
}

func TestP9ArrangeBy(t *testing.T) {
	for _, c := range []struct{ p, a, want []int }{
		{nil, nil, []int{}}, {[]int{}, nil, []int{}}, {[]int{7}, []int{0}, []int{7}}, {[]int{-12}, []int{0}, []int{-12}}, {[]int{5, -8, 6}, []int{2, 0, 1}, []int{6, 5, -8}},
		{[]int{5, -8, 6}, []int{1, 2, 0}, []int{-8, 6, 5}}, {[]int{-1, 11}, []int{1, 0}, []int{11, -1}},
		{upElements, []int{11, 0, 1, 2, 3, 4, 5, 6, 7, 8, 9, 10}, []int{-12, -1, -2, -3, -4, -5, -6, -7, -8, -9, -10, -11}},
		// Lengths that differ.
		{nil, []int{0}, nil}, {[]int{0}, nil, nil}, {[]int{4, 5}, []int{0, 1, 2}, nil}, {[]int{4, 5, 6}, []int{1, 0}, nil}, {downElements, order(11), nil}, {downElements[:11], order(12), nil},
		// Packets that are not valid.
		{[]int{12}, []int{0}, nil}, {[]int{-13}, []int{0}, nil}, {[]int{3, 3}, []int{1, 0}, nil}, {[]int{3, -4}, []int{1, 0}, nil}, {[]int{40, 1}, []int{0, 1}, nil},
		{order(13), order(13), nil}, {order(13), order(12), nil}, {append(slices.Clone(downElements), -1), order(13), nil}, {repeated(0, 5000), order(12), nil},
	} {
		got, ok := impl.ArrangeBy(c.p, c.a)
		wantPerm(t, "the arranged packet", got, ok, c.want)
	}
	for _, no := range noPerms {
		for _, p := range [][]int{no, nil, order(len(no)), upElements[:min(len(no), 12)]} {
			got, ok := impl.ArrangeBy(p, no)
			wantPerm(t, "arranged by what is none", got, ok, nil)
		}
	}
	for _, p := range listsOver(fewElements, 3) {
		for _, a := range permsUpTo(4) {
			var want []int
			if tableOk(p) && len(p) == len(a) {
				want = performed(p, a)
			}
			got, ok := impl.ArrangeBy(p, a)
			wantPerm(t, "the arranged packet", got, ok, want)
		}
	}
}

func TestP9PermBetween(t *testing.T) {
	for _, c := range []struct{ p, q, want []int }{
		{nil, nil, []int{}}, {nil, []int{}, []int{}}, {[]int{4}, []int{4}, []int{0}}, {[]int{4}, []int{-5}, []int{0}}, {[]int{5, -8, 6}, []int{6, 5, -8}, []int{2, 0, 1}},
		{[]int{5, -8, 6}, []int{-7, -6, 7}, []int{2, 0, 1}}, {[]int{6, 5, 7}, []int{5, 7, 6}, []int{1, 2, 0}}, {downElements, upElements, order(12)},
		{downElements, []int{11, -11, 9, -9, 7, -7, 5, -5, 3, -3, 1, -1}, []int{11, 10, 9, 8, 7, 6, 5, 4, 3, 2, 1, 0}},
		// No arrangements of each other.
		{nil, []int{0}, nil}, {[]int{0}, nil, nil}, {[]int{0}, []int{1}, nil}, {[]int{0, 1}, []int{0}, nil}, {[]int{0}, []int{1, 0}, nil}, {[]int{0, 1}, []int{0, 2}, nil},
		{[]int{12}, []int{12}, nil}, {[]int{0, 0}, []int{0, 0}, nil}, {[]int{0, -1}, []int{0, -1}, nil}, {[]int{0, 1}, []int{0, -1}, nil}, {[]int{0, -1}, []int{1, 0}, nil}, {[]int{40, 0}, []int{0, 40}, nil},
		{order(13), order(13), nil}, {downElements, downElements[1:], nil}, {downElements[:11], upElements[1:], nil}, {repeated(3, 5000), repeated(3, 5000), nil},
	} {
		got, ok := impl.PermBetween(c.p, c.q)
		wantPerm(t, "the permutation between both", got, ok, c.want)
	}
	lists := listsOver([]int{0, 1, -1, -2, 11, -12, 12}, 3)
	for _, p := range lists {
		for _, q := range lists {
			var want []int
			if impl.IsArrangement(p, q) {
				want = []int{}
				for _, x := range q {
					card, _ := tableCard(x)
					want = append(want, slices.IndexFunc(p, func(y int) bool { held, _ := tableCard(y); return held == card }))
				}
			}
			got, ok := impl.PermBetween(p, q)
			wantPerm(t, "the permutation between both", got, ok, want)
		}
	}
}

// The conventions of chapter 1: arguments and what lies behind them stay, results share no memory, and equal calls give equal results.

func TestP9PermsAreNotChanged(t *testing.T) {
	behindA, behindB := []int{1, 2, 0, 7, 8, 9}, []int{0, 2, 1, 7, 8, 9}
	beforeA, beforeB := slices.Clone(behindA), slices.Clone(behindB)
	a, b := behindA[:3], behindB[:3]
	for range 2 {
		c, _ := impl.ComposePerms(a, b)
		wantPerm(t, "the composed one", c, true, []int{1, 0, 2})
		d, _ := impl.InversePerm(a)
		wantPerm(t, "the inverse", d, true, []int{2, 0, 1})
		e, _ := impl.PowerPerm(a, 2)
		wantPerm(t, "the power", e, true, []int{2, 0, 1})
		f, _ := impl.ArrangeBy(b, a)
		wantPerm(t, "the arranged packet", f, true, []int{2, 1, 0})
		g, _ := impl.PermBetween(a, b)
		wantPerm(t, "the permutation between both", g, true, []int{2, 1, 0})
		if !impl.PermOk(a) || impl.OrderOfPerm(a) != 3 || impl.IsEven(b) || !sameLists(impl.CyclesOf(b), [][]int{{0}, {1, 2}}) {
			t.Errorf("wrong results for %v and %v", a, b)
		}
		// Whatever is written to the results changes neither the arguments nor the next results.
		for _, list := range append(impl.CyclesOf(a), c, d, e, f, g, impl.IdentityPerm(3)) {
			for i := range list {
				list[i] = 99
			}
			_ = append(list, 98, 98, 98)
		}
	}
	if !slices.Equal(behindA, beforeA) || !slices.Equal(behindB, beforeB) {
		t.Errorf("%v and %v have become %v and %v", beforeA, beforeB, behindA, behindB)
	}
}

func TestP9PermsAreNew(t *testing.T) {
	a := []int{1, 2, 0}
	one := impl.IdentityPerm(3)
	for k := range 2 {
		power, _ := impl.PowerPerm(a, k)
		power[0] = 99
	}
	c, _ := impl.ComposePerms(a, one)
	d, _ := impl.ComposePerms(one, a)
	e, _ := impl.ArrangeBy(a, one)
	c[0], d[0], e[0] = 99, 99, 99
	if !slices.Equal(a, []int{1, 2, 0}) || !slices.Equal(one, order(3)) {
		t.Errorf("a change of a result changes an argument: %v, %v", a, one)
	}
}

func TestP9CyclesShareNoMemory(t *testing.T) {
	a := []int{2, 1, 0, 4, 5, 3}
	want := [][]int{{0, 2}, {1}, {3, 4, 5}}
	cycles := impl.CyclesOf(a)
	for i := range cycles {
		_ = append(cycles[i], 97, 97, 97)
	}
	if !sameLists(cycles, want) {
		t.Errorf("a longer cycle changes the others: %v", cycles)
	}
	cycles[0][0], cycles[1][0] = 99, 99
	if !sameLists(impl.CyclesOf(a), want) || !slices.Equal(a, []int{2, 1, 0, 4, 5, 3}) || cycles[2][0] != 3 {
		t.Errorf("a change of a cycle changes others: %v, %v", impl.CyclesOf(a), cycles)
	}
}
