package tests

import (
	"fmt"
	"math"
	"slices"
	"strings"
	"testing"

	"loop.example/g00846/impl"
)

// moveNames are the names of the kinds 1 to 9.
var moveNames = []string{"cut", "deal", "flip", "faro", "monge", "milk", "duck", "turn", "under"}

// farNumbers are beside what a kind, a number of cards or a K can be.
var farNumbers = []int{
	-1, -2, -3, -9, -12, -13, -255, -256, -1 << 32, -1<<32 + 1, math.MinInt64, math.MinInt64 + 1, math.MinInt64 + 9,
	13, 14, 20, 24, 255, 256, 257, 1 << 16, 1<<16 + 1, 1 << 32, 1<<32 + 1, 1<<32 + 9, 1 << 62, math.MaxInt64 - 1, math.MaxInt64,
}

// mostOf returns the greatest K of a kind for n cards, or -1 if the kind is none.
func mostOf(kind int, n int) int {
	switch kind {
	case 1, 2, 3:
		return n
	case 4, 5, 7:
		return 1
	case 6:
		return 0
	case 8, 9:
		return n - 1
	}
	return -1
}

// movesOf returns all moves that can be performed on n cards.
func movesOf(n int) []impl.Move {
	var moves []impl.Move
	for kind := 1; kind <= 9; kind++ {
		for k := 0; k <= mostOf(kind, n); k++ {
			moves = append(moves, impl.Move{Kind: kind, K: k})
		}
	}
	return moves
}

// descending returns the numbers from x down to y in steps of step.
func descending(x int, y int, step int) []int {
	var list []int
	for ; x >= y; x -= step {
		list = append(list, x)
	}
	return list
}

// ascending returns the numbers from x up to y in steps of step.
func ascending(x int, y int, step int) []int {
	var list []int
	for ; x < y; x += step {
		list = append(list, x)
	}
	return list
}

// milkOrder returns from where the cards come by MvMilk: from the middle, and then from pairs ever farther from it.
func milkOrder(n int) []int {
	var from []int
	if n%2 == 1 {
		from = []int{n / 2}
	}
	for i := n/2 - 1; i >= 0; i-- {
		from = append(from, i, n-1-i)
	}
	return from
}

// duckOrder returns from where the cards come by MvDuck. The cards stay where they are on a circle, around which one goes.
func duckOrder(n int, k int) []int {
	var dealt []int
	gone := make([]bool, n)
	deals := k == 1
	for at := 0; len(dealt) < n; at = (at + 1) % n {
		if gone[at] {
			continue
		}
		if deals || len(dealt) == n-1 {
			gone[at] = true
			dealt = append(dealt, at)
		}
		deals = !deals
	}
	slices.Reverse(dealt)
	return dealt
}

// faroOrder returns from where the cards come by MvFaro.
func faroOrder(n int, k int) []int {
	// For odd n, the card at the end stays there.
	from := order(n)
	for i := range n / 2 {
		from[2*i+k] = i
		from[2*i+1-k] = n/2 + i
	}
	if n%2 == 1 {
		from[n-1] = n - 1
	}
	return from
}

// moveOrder returns, by a rule for each index, from where the cards come by a move on n cards.
func moveOrder(n int, m impl.Move) []int {
	k := m.K
	switch m.Kind {
	case 1:
		return append(ascending(k, n, 1), ascending(0, k, 1)...)
	case 2, 3:
		return append(descending(k-1, 0, 1), ascending(k, n, 1)...)
	case 4:
		return faroOrder(n, k)
	case 5:
		// The cards of every second index go on top, so the last of them comes first. For K 1, card 0 lies as if it were one of them.
		top := n - 1
		if top%2 == k {
			top--
		}
		return append(descending(top, 0, 2), ascending(k, n, 2)...)
	case 6:
		return milkOrder(n)
	case 7:
		return duckOrder(n, k)
	case 9:
		return append(append(ascending(0, k, 1), ascending(k+1, n, 1)...), k)
	}
	return order(n)
}

// moved returns the packet after a move that can be performed on it.
func moved(p []int, m impl.Move) []int {
	q := performed(p, moveOrder(len(p), m))
	switch m.Kind {
	case 3:
		return turned(q, 1<<m.K-1)
	case 8:
		return turned(q, 1<<m.K)
	}
	return q
}

// movePackets are packets of n cards, in order and not, with several sides up.
func movePackets(n int) [][]int {
	mixed := []int{4, -10, 7, 0, -12, 2, -2, 10, 8, -4, -6, -7}
	return [][]int{downElements[:n], upElements[:n], downElements[12-n:], turned(downElements, 0x5a5)[:n], mixed[:n], mixed[12-n:], turned(mixed, 0xfff)[:n]}
}

// wantMoves checks Perform for a kind in a table with K, the packet before and the packet after, which is nil where it fails.
func wantMoves(t *testing.T, kind int, table []moveCase) {
	t.Helper()
	for _, c := range table {
		m := impl.Move{Kind: kind, K: c.k}
		got, ok := impl.Perform(c.p, m)
		wantPerm(t, fmt.Sprintf("%v after %v", c.p, m), got, ok, c.want)
		if impl.MoveOk(len(c.p), m) != ok {
			t.Errorf("MoveOk(%d, %v) = %t", len(c.p), m, !ok)
		}
	}
	for n := 1; n <= 12; n++ {
		for k := -2; k <= 14; k++ {
			m := impl.Move{Kind: kind, K: k}
			for _, p := range movePackets(n) {
				var want []int
				if k >= 0 && k <= mostOf(kind, n) {
					want = moved(p, m)
				}
				got, ok := impl.Perform(p, m)
				wantPerm(t, fmt.Sprintf("%v after %v", p, m), got, ok, want)
			}
		}
	}
}

type moveCase struct {
	k       int
	p, want []int
}

func TestP2Cut(t *testing.T) {
	wantMoves(t, impl.MvCut, []moveCase{
		{0, []int{0, 1, 2, 3, 4}, []int{0, 1, 2, 3, 4}}, {1, []int{0, 1, 2, 3, 4}, []int{1, 2, 3, 4, 0}}, {2, []int{0, 1, 2, 3, 4}, []int{2, 3, 4, 0, 1}},
		{4, []int{0, 1, 2, 3, 4}, []int{4, 0, 1, 2, 3}}, {5, []int{0, 1, 2, 3, 4}, []int{0, 1, 2, 3, 4}}, {6, []int{0, 1, 2, 3, 4}, nil}, {-1, []int{0, 1, 2, 3, 4}, nil},
		{0, []int{7}, []int{7}}, {1, []int{-8}, []int{-8}}, {2, []int{7}, nil}, {0, nil, nil}, {3, []int{5, -8, 6, -1}, []int{-1, 5, -8, 6}},
		{12, downElements, downElements}, {13, downElements, nil}, {11, upElements, []int{-12, -1, -2, -3, -4, -5, -6, -7, -8, -9, -10, -11}},
	})
}

func TestP2Deal(t *testing.T) {
	wantMoves(t, impl.MvDeal, []moveCase{
		{0, []int{0, 1, 2, 3, 4}, []int{0, 1, 2, 3, 4}}, {1, []int{0, 1, 2, 3, 4}, []int{0, 1, 2, 3, 4}}, {2, []int{0, 1, 2, 3, 4}, []int{1, 0, 2, 3, 4}}, {3, []int{0, 1, 2, 3, 4}, []int{2, 1, 0, 3, 4}},
		{5, []int{0, 1, 2, 3, 4}, []int{4, 3, 2, 1, 0}}, {6, []int{0, 1, 2, 3, 4}, nil}, {-1, []int{0, 1, 2, 3, 4}, nil},
		{0, []int{7}, []int{7}}, {1, []int{-8}, []int{-8}}, {2, []int{7}, nil}, {0, nil, nil}, {3, []int{5, -8, 6, -1}, []int{6, -8, 5, -1}},
		{12, downElements, []int{11, 10, 9, 8, 7, 6, 5, 4, 3, 2, 1, 0}}, {13, downElements, nil},
	})
}

func TestP2Flip(t *testing.T) {
	wantMoves(t, impl.MvFlip, []moveCase{
		{0, []int{0, 1, 2, 3, 4}, []int{0, 1, 2, 3, 4}}, {1, []int{0, 1, 2, 3, 4}, []int{-1, 1, 2, 3, 4}}, {2, []int{0, 1, 2, 3, 4}, []int{-2, -1, 2, 3, 4}}, {3, []int{0, 1, 2, 3, 4}, []int{-3, -2, -1, 3, 4}},
		{5, []int{0, 1, 2, 3, 4}, []int{-5, -4, -3, -2, -1}}, {6, []int{0, 1, 2, 3, 4}, nil}, {-1, []int{0, 1, 2, 3, 4}, nil},
		{0, []int{7}, []int{7}}, {1, []int{7}, []int{-8}}, {1, []int{-8}, []int{7}}, {2, []int{7}, nil}, {0, nil, nil}, {3, []int{5, -8, 6, -1}, []int{-7, 7, -6, -1}},
		{12, upElements, []int{11, 10, 9, 8, 7, 6, 5, 4, 3, 2, 1, 0}}, {13, upElements, nil},
	})
}

func TestP2Faro(t *testing.T) {
	wantMoves(t, impl.MvFaro, []moveCase{
		{0, []int{0, 1, 2, 3}, []int{0, 2, 1, 3}}, {1, []int{0, 1, 2, 3}, []int{2, 0, 3, 1}}, {2, []int{0, 1, 2, 3}, nil}, {-1, []int{0, 1, 2, 3}, nil},
		{0, []int{0, 1, 2, 3, 4}, []int{0, 2, 1, 3, 4}}, {1, []int{0, 1, 2, 3, 4}, []int{2, 0, 3, 1, 4}},
		{0, []int{7}, []int{7}}, {1, []int{-8}, []int{-8}}, {2, []int{7}, nil}, {0, nil, nil}, {0, []int{5, -8}, []int{5, -8}}, {1, []int{5, -8}, []int{-8, 5}},
		{0, []int{5, -8, 6}, []int{5, -8, 6}}, {1, []int{5, -8, 6}, []int{-8, 5, 6}}, {0, downElements, []int{0, 6, 1, 7, 2, 8, 3, 9, 4, 10, 5, 11}}, {1, downElements, []int{6, 0, 7, 1, 8, 2, 9, 3, 10, 4, 11, 5}},
		{0, downElements[:11], []int{0, 5, 1, 6, 2, 7, 3, 8, 4, 9, 10}}, {1, downElements[:11], []int{5, 0, 6, 1, 7, 2, 8, 3, 9, 4, 10}},
	})
}

func TestP2Monge(t *testing.T) {
	wantMoves(t, impl.MvMonge, []moveCase{
		{0, []int{0, 1, 2, 3, 4}, []int{3, 1, 0, 2, 4}}, {1, []int{0, 1, 2, 3, 4}, []int{4, 2, 0, 1, 3}}, {2, []int{0, 1, 2, 3, 4}, nil}, {-1, []int{0, 1, 2, 3, 4}, nil},
		{0, []int{0, 1, 2, 3}, []int{3, 1, 0, 2}}, {1, []int{0, 1, 2, 3}, []int{2, 0, 1, 3}},
		{0, []int{7}, []int{7}}, {1, []int{-8}, []int{-8}}, {2, []int{7}, nil}, {0, nil, nil}, {0, []int{5, -8}, []int{-8, 5}}, {1, []int{5, -8}, []int{5, -8}},
		{0, downElements, []int{11, 9, 7, 5, 3, 1, 0, 2, 4, 6, 8, 10}}, {1, downElements, []int{10, 8, 6, 4, 2, 0, 1, 3, 5, 7, 9, 11}},
	})
}

func TestP2Milk(t *testing.T) {
	wantMoves(t, impl.MvMilk, []moveCase{
		{0, []int{0, 1, 2, 3, 4}, []int{2, 1, 3, 0, 4}}, {0, []int{0, 1, 2, 3}, []int{1, 2, 0, 3}}, {1, []int{0, 1, 2, 3}, nil}, {-1, []int{0, 1, 2, 3}, nil},
		{0, []int{7}, []int{7}}, {0, []int{-8}, []int{-8}}, {1, []int{7}, nil}, {0, nil, nil}, {0, []int{5, -8}, []int{5, -8}}, {0, []int{5, -8, 6}, []int{-8, 5, 6}},
		{0, downElements, []int{5, 6, 4, 7, 3, 8, 2, 9, 1, 10, 0, 11}}, {0, downElements[:11], []int{5, 4, 6, 3, 7, 2, 8, 1, 9, 0, 10}},
	})
}

func TestP2Duck(t *testing.T) {
	wantMoves(t, impl.MvDuck, []moveCase{
		{0, []int{0, 1, 2, 3, 4}, []int{2, 4, 0, 3, 1}}, {1, []int{0, 1, 2, 3, 4}, []int{1, 3, 4, 2, 0}}, {2, []int{0, 1, 2, 3, 4}, nil}, {-1, []int{0, 1, 2, 3, 4}, nil},
		{0, []int{0, 1, 2, 3}, []int{0, 2, 3, 1}}, {1, []int{0, 1, 2, 3}, []int{3, 1, 2, 0}},
		{0, []int{7}, []int{7}}, {1, []int{-8}, []int{-8}}, {2, []int{7}, nil}, {0, nil, nil}, {0, []int{5, -8}, []int{5, -8}}, {1, []int{5, -8}, []int{-8, 5}},
		{0, []int{5, -8, 6}, []int{6, 5, -8}}, {1, []int{5, -8, 6}, []int{-8, 6, 5}},
		{0, downElements, []int{8, 0, 4, 10, 6, 2, 11, 9, 7, 5, 3, 1}}, {1, downElements, []int{7, 11, 3, 9, 5, 1, 10, 8, 6, 4, 2, 0}},
	})
}

func TestP2Turn(t *testing.T) {
	wantMoves(t, impl.MvTurn, []moveCase{
		{0, []int{0, 1, 2, 3, 4}, []int{-1, 1, 2, 3, 4}}, {4, []int{0, 1, 2, 3, 4}, []int{0, 1, 2, 3, -5}}, {5, []int{0, 1, 2, 3, 4}, nil}, {-1, []int{0, 1, 2, 3, 4}, nil},
		{0, []int{7}, []int{-8}}, {0, []int{-8}, []int{7}}, {1, []int{7}, nil}, {0, nil, nil}, {1, []int{5, -8, 6}, []int{5, 7, 6}}, {2, []int{5, -8, 6}, []int{5, -8, -7}},
		{11, upElements, []int{-1, -2, -3, -4, -5, -6, -7, -8, -9, -10, -11, 11}}, {12, upElements, nil},
	})
}

func TestP2Under(t *testing.T) {
	wantMoves(t, impl.MvUnder, []moveCase{
		{0, []int{0, 1, 2, 3, 4}, []int{1, 2, 3, 4, 0}}, {1, []int{0, 1, 2, 3, 4}, []int{0, 2, 3, 4, 1}}, {4, []int{0, 1, 2, 3, 4}, []int{0, 1, 2, 3, 4}}, {5, []int{0, 1, 2, 3, 4}, nil}, {-1, []int{0, 1, 2, 3, 4}, nil},
		{0, []int{7}, []int{7}}, {0, []int{-8}, []int{-8}}, {1, []int{7}, nil}, {0, nil, nil}, {1, []int{5, -8, 6}, []int{5, 6, -8}},
		{11, downElements, downElements}, {10, downElements, []int{0, 1, 2, 3, 4, 5, 6, 7, 8, 9, 11, 10}}, {12, downElements, nil},
	})
}

func TestP2MovesKeepTheCards(t *testing.T) {
	for n := 1; n <= 12; n++ {
		for _, p := range movePackets(n) {
			for _, m := range movesOf(n) {
				q, ok := impl.Perform(p, m)
				if !ok || !impl.IsArrangement(p, q) {
					t.Fatalf("%v after %v is %v, %t", p, m, q, ok)
				}
				// Only a flip and a turn change sides.
				sides := impl.CountUp(q) == impl.CountUp(p)
				if m.Kind != impl.MvFlip && m.Kind != impl.MvTurn && !sides || m.Kind == impl.MvTurn && sides {
					t.Errorf("%v after %v is %v", p, m, q)
				}
			}
		}
	}
}

func TestP2PermOfMoveArrangesTheCards(t *testing.T) {
	for n := 1; n <= 12; n++ {
		for _, m := range movesOf(n) {
			a, ok := impl.PermOfMove(n, m)
			wantPerm(t, fmt.Sprintf("the permutation of %v on %d cards", m, n), a, ok, moveOrder(n, m))
			for _, p := range movePackets(n) {
				q, _ := impl.Perform(p, m)
				between, ok := impl.PermBetween(p, q)
				wantPerm(t, fmt.Sprintf("the permutation between %v and %v", p, q), between, ok, a)
				// The arranged packet is the moved one, but for the sides.
				r, ok := impl.ArrangeBy(p, a)
				if !ok || !slices.EqualFunc(q, r, func(x int, y int) bool { return impl.CardOf(x) == impl.CardOf(y) }) {
					t.Errorf("%v arranged by %v is %v, %t, and after %v %v", p, a, r, ok, m, q)
				}
			}
		}
	}
}

func TestP2PerformAllInOrder(t *testing.T) {
	for n := 1; n <= 5; n++ {
		p := movePackets(n)[4]
		for _, first := range movesOf(n) {
			got, ok := impl.PerformAll(p, []impl.Move{first})
			wantPerm(t, fmt.Sprintf("%v after %v alone", p, first), got, ok, moved(p, first))
			for _, second := range movesOf(n) {
				got, ok := impl.PerformAll(p, []impl.Move{first, second})
				wantPerm(t, fmt.Sprintf("%v after %v and %v", p, first, second), got, ok, moved(moved(p, first), second))
			}
		}
	}
}

func TestP2PerformAllOfLongLists(t *testing.T) {
	for n := 1; n <= 12; n++ {
		moves := movesOf(n)
		for step := 1; step <= 7; step++ {
			var list []impl.Move
			want := movePackets(n)[6]
			for i := range 20 {
				m := moves[(step*i+n)%len(moves)]
				list = append(list, m)
				want = moved(want, m)
				got, ok := impl.PerformAll(movePackets(n)[6], list)
				wantPerm(t, fmt.Sprintf("the packet after %v", list), got, ok, want)
			}
		}
	}
}

func TestP2PermsOfMovesAreComposed(t *testing.T) {
	for n := 1; n <= 7; n++ {
		for _, first := range movesOf(n) {
			for _, second := range movesOf(n) {
				a, _ := impl.PermOfMove(n, first)
				b, _ := impl.PermOfMove(n, second)
				q, _ := impl.PerformAll(order(n), []impl.Move{first, second})
				both, ok := impl.PermBetween(order(n), q)
				wantPerm(t, fmt.Sprintf("the permutation of %v and %v", first, second), both, ok, composed(t, a, b))
			}
		}
	}
}

func TestP9NumbersOfMoves(t *testing.T) {
	kinds := []int{impl.MvCut, impl.MvDeal, impl.MvFlip, impl.MvFaro, impl.MvMonge, impl.MvMilk, impl.MvDuck, impl.MvTurn, impl.MvUnder}
	if !slices.Equal(kinds, []int{1, 2, 3, 4, 5, 6, 7, 8, 9}) || impl.MaxMoves != 20 {
		t.Errorf("the kinds are %v, and MaxMoves is %d", kinds, impl.MaxMoves)
	}
}

func TestP9MoveOk(t *testing.T) {
	numbers := append(ascending(0, 13, 1), farNumbers...)
	for _, n := range numbers {
		for _, kind := range numbers {
			for _, k := range numbers {
				want := n >= 1 && n <= 12 && k >= 0 && k <= mostOf(kind, n)
				if got := impl.MoveOk(n, impl.Move{Kind: kind, K: k}); got != want {
					t.Errorf("MoveOk(%d, {%d %d}) = %t", n, kind, k, got)
				}
			}
		}
	}
}

func TestP9MoveName(t *testing.T) {
	for i, name := range moveNames {
		if got := impl.MoveName(i + 1); got != name {
			t.Errorf("MoveName(%d) = %q, want %q", i+1, got, name)
		}
	}
	for _, kind := range append([]int{0, 10, 11, 12}, farNumbers...) {
		if got := impl.MoveName(kind); got != "" {
			t.Errorf("MoveName(%d) = %q", kind, got)
		}
	}
}

func TestP9MoveNamed(t *testing.T) {
	for i, name := range moveNames {
		if got := impl.MoveNamed(name); got != i+1 || impl.MoveName(got) != name {
			t.Errorf("MoveNamed(%q) = %d, want %d", name, got, i+1)
		}
		for _, other := range []string{
			strings.ToUpper(name), strings.ToUpper(name[:1]) + name[1:], " " + name, name + " ", name + "\n", name + "\x00", "\xff" + name, name + name, name + " 0", name[1:], name[:len(name)-1], name[:1],
		} {
			if got := impl.MoveNamed(other); got != 0 {
				t.Errorf("MoveNamed(%q) = %d", other, got)
			}
		}
	}
	for _, other := range []string{"", " ", "x", "0", "1", "fixed", "anycut", "riffle", "pick", "note", "cut,deal", "cut deal", "\x00", "\xff\xfe", "dück", strings.Repeat("cut", 1000)} {
		if got := impl.MoveNamed(other); got != 0 {
			t.Errorf("MoveNamed(%q) = %d", other, got)
		}
	}
}

// noPackets are no valid packets, or the empty one, on which no move can be performed.
var noPackets = [][]int{
	nil, {}, {12}, {-13}, {math.MaxInt64}, {math.MinInt64}, {3, 3}, {3, -4}, {-4, 3}, {40, 1}, {1, 40}, {0, 1, 2, 3, 4, 0}, {0, 1, 2, -1}, {0, 12, 1}, {0, 1, -13},
	order(13), append(slices.Clone(upElements), 12), append(slices.Clone(downElements), -1), repeated(0, 12), repeated(0, 13), repeated(5, 5000),
}

func TestP9PerformFails(t *testing.T) {
	for _, p := range noPackets {
		for kind := range 11 {
			for k := -1; k <= 13; k++ {
				m := impl.Move{Kind: kind, K: k}
				got, ok := impl.Perform(p, m)
				wantPerm(t, fmt.Sprintf("%v after %v", p, m), got, ok, nil)
			}
		}
	}
	numbers := append(ascending(0, 13, 1), farNumbers...)
	for _, p := range [][]int{{7}, {5, -8}, {0, 1, 2, 3, 4}, downElements[:11], upElements} {
		for _, kind := range numbers {
			for _, k := range numbers {
				m := impl.Move{Kind: kind, K: k}
				if got, ok := impl.Perform(p, m); k < 0 || k > mostOf(kind, len(p)) {
					wantPerm(t, fmt.Sprintf("%v after %v", p, m), got, ok, nil)
				}
			}
		}
	}
}

func TestP9PermOfMove(t *testing.T) {
	for _, c := range []struct {
		n, kind, k int
		want       []int
	}{
		{3, impl.MvFlip, 2, []int{1, 0, 2}}, {3, impl.MvTurn, 2, []int{0, 1, 2}}, {3, impl.MvTurn, 3, nil}, {5, impl.MvCut, 2, []int{2, 3, 4, 0, 1}}, {5, impl.MvDuck, 0, []int{2, 4, 0, 3, 1}},
		{1, impl.MvMilk, 0, []int{0}}, {1, impl.MvFlip, 1, []int{0}}, {1, impl.MvMilk, 1, nil}, {12, impl.MvFaro, 1, []int{6, 0, 7, 1, 8, 2, 9, 3, 10, 4, 11, 5}},
		{0, impl.MvCut, 0, nil}, {-1, impl.MvCut, 0, nil}, {13, impl.MvCut, 0, nil}, {3, 0, 0, nil}, {3, 10, 0, nil},
	} {
		got, ok := impl.PermOfMove(c.n, impl.Move{Kind: c.kind, K: c.k})
		wantPerm(t, fmt.Sprintf("the permutation of {%d %d} on %d cards", c.kind, c.k, c.n), got, ok, c.want)
	}
	numbers := append(ascending(0, 13, 1), farNumbers...)
	for _, n := range numbers {
		for _, kind := range numbers {
			for _, k := range numbers {
				m := impl.Move{Kind: kind, K: k}
				var want []int
				if n >= 1 && n <= 12 && k >= 0 && k <= mostOf(kind, n) {
					want = moveOrder(n, m)
				}
				got, ok := impl.PermOfMove(n, m)
				wantPerm(t, fmt.Sprintf("the permutation of %v on %d cards", m, n), got, ok, want)
			}
		}
	}
}

func TestP9PerformAll(t *testing.T) {
	cut, turn := impl.Move{Kind: impl.MvCut, K: 1}, impl.Move{Kind: impl.MvTurn, K: 0}
	for _, c := range []struct {
		p    []int
		list []impl.Move
		want []int
	}{
		{[]int{0, 1, 2, 3, 4}, []impl.Move{cut, turn}, []int{-2, 2, 3, 4, 0}}, {[]int{0, 1, 2, 3, 4}, []impl.Move{turn, cut}, []int{1, 2, 3, 4, -1}},
		{[]int{5, -8, 6}, []impl.Move{{Kind: impl.MvFlip, K: 3}, cut, {Kind: impl.MvUnder, K: 1}}, []int{7, -7, -6}},
		// No moves.
		{[]int{5, -8, 6}, nil, []int{5, -8, 6}}, {[]int{5, -8, 6}, []impl.Move{}, []int{5, -8, 6}}, {upElements, nil, upElements}, {nil, nil, []int{}}, {[]int{}, []impl.Move{}, []int{}},
		// MaxMoves moves, and one more.
		{[]int{0, 1, 2}, slices.Repeat([]impl.Move{cut}, 19), []int{1, 2, 0}}, {[]int{0, 1, 2}, slices.Repeat([]impl.Move{cut}, 20), []int{2, 0, 1}}, {[]int{0, 1, 2}, slices.Repeat([]impl.Move{cut}, 21), nil},
		{[]int{0}, slices.Repeat([]impl.Move{{Kind: impl.MvMilk}}, 5000), nil},
		// No moves can be performed on the empty packet.
		{nil, []impl.Move{{Kind: impl.MvCut}}, nil}, {nil, []impl.Move{{}}, nil},
	} {
		got, ok := impl.PerformAll(c.p, c.list)
		wantPerm(t, fmt.Sprintf("%v after %v", c.p, c.list), got, ok, c.want)
	}
	for _, p := range noPackets[2:] {
		for _, list := range [][]impl.Move{nil, {{Kind: impl.MvCut}}, {cut, turn}} {
			got, ok := impl.PerformAll(p, list)
			wantPerm(t, fmt.Sprintf("%v after %v", p, list), got, ok, nil)
		}
	}
}

func TestP9PerformAllFailsAtEachIndex(t *testing.T) {
	cut := impl.Move{Kind: impl.MvCut, K: 2}
	for _, bad := range []impl.Move{{}, {Kind: 10}, {Kind: -1}, {Kind: impl.MvCut, K: -1}, {Kind: impl.MvCut, K: 6}, {Kind: impl.MvTurn, K: 5}, {Kind: impl.MvMilk, K: 1}, {Kind: impl.MvDuck, K: 2}, {Kind: math.MaxInt64}} {
		for _, n := range []int{1, 2, 3, 7, 20} {
			for i := range n {
				list := slices.Repeat([]impl.Move{cut}, n)
				list[i] = bad
				got, ok := impl.PerformAll([]int{0, 1, 2, 3, 4}, list)
				wantPerm(t, fmt.Sprintf("the packet after %v", list), got, ok, nil)
			}
		}
	}
}

// The conventions of chapter 1: arguments and what lies behind them stay, results share no memory, and equal calls give equal results.

func TestP9MovesDoNotChangeThePacket(t *testing.T) {
	for n := 1; n <= 12; n++ {
		behind := append(slices.Clone(movePackets(n)[4]), 97, 98, 99, 97, 98, 99, 97, 98, 99, 97, 98, 99, 97)
		before := slices.Clone(behind)
		p := behind[:n]
		for _, m := range movesOf(n) {
			var results [][]int
			for range 2 {
				q, _ := impl.Perform(p, m)
				r, _ := impl.PerformAll(p, []impl.Move{m})
				wantPerm(t, fmt.Sprintf("%v after %v", p, m), q, true, moved(p, m))
				wantPerm(t, fmt.Sprintf("%v after %v", p, m), r, true, moved(p, m))
				a, _ := impl.PermOfMove(n, m)
				wantPerm(t, fmt.Sprintf("the permutation of %v on %d cards", m, n), a, true, moveOrder(n, m))
				none, _ := impl.PerformAll(p, nil)
				wantPerm(t, "the packet after no moves", none, true, p)
				results = append(results, q, r, a, none)
				// Whatever is written to the results changes neither the packet nor the next results.
				for _, list := range results {
					for i := range list {
						list[i] = 96
					}
					_ = append(list, 95, 95, 95)
				}
			}
			if !slices.Equal(behind, before) {
				t.Fatalf("%v has become %v by %v", before, behind, m)
			}
		}
	}
}

func TestP9PerformAllDoesNotChangeTheMoves(t *testing.T) {
	behind := []impl.Move{{Kind: impl.MvFlip, K: 2}, {Kind: impl.MvFaro, K: 1}, {Kind: impl.MvDuck, K: 0}, {Kind: impl.MvMonge, K: 1}}
	before := slices.Clone(behind)
	for range 2 {
		got, ok := impl.PerformAll([]int{0, 1, 2, 3}, behind[:3])
		wantPerm(t, "the packet after three moves", got, ok, []int{2, 3, -1, -2})
	}
	if !slices.Equal(behind, before) {
		t.Errorf("%v has become %v", before, behind)
	}
}
