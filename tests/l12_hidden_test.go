package tests

import (
	"fmt"
	"math"
	"math/bits"
	"slices"
	"strings"
	"sync"
	"testing"

	"loop.example/g00846/impl"
)

// noDecks are numbers of cards that are no deck.
var noDecks = slices.Concat([]int{0, 9, 10, 11, 12, 15, 16, 27, 52, 1<<32 + 4, 1<<32 + 8, -4, -8, math.MinInt64 + 4, math.MinInt64 + 8}, farNumbers)

// noHandSizes are numbers of cards that no hand of a deck has.
var noHandSizes = slices.Concat([]int{0, 9, 10, 11, 12, 63, 64, 1<<32 + 2, 1<<32 + 3, -4, math.MinInt64 + 2, math.MinInt64 + 3}, farNumbers)

// foundCodes are the codes that FindCode finds, by the number of cards and the size of the hands: what is shown for each
// hand, the cards of one message without a space.
var foundCodes = map[[2]int]string{
	{2, 2}: "0",
	{3, 2}: "0 2 1",
	{3, 3}: "01",
	{4, 3}: "01 03 02 12",
	{5, 3}: "01 10 04 03 02 30 12 14 13 23",
	{6, 3}: "10 01 04 15 03 02 20 30 05 40 13 21 12 14 31 41 23 25 24 34",
	{7, 3}: "20 13 10 01 60 30 02 05 26 34 03 06 04 40 50 12 21 51 16 31 15 61 41 14 56 24 32 23 25 42 52 35 43 36 45",
	{8, 3}: "10 31 40 01 61 71 03 42 02 20 70 04 50 30 07 05 06 74 65 75 60 32 24 51 21 12 34 13 16 73 41 14 17 15 57 76 23 25 62 72 54 46 27 26 52 67 43 36 37 35 53 63 64 45 47 56",
}

// digitsOf returns the lists of digits that a text separates by spaces.
func digitsOf(text string) [][]int {
	var lists [][]int
	for _, word := range strings.Fields(text) {
		lists = append(lists, colorsOf(word))
	}
	return lists
}

// handLists returns all hands of k of n cards, ordered by comparing them.
func handLists(n int, k int) [][]int {
	var hands [][]int
	for members := range 1 << n {
		if bits.OnesCount(uint(members)) == k {
			hands = append(hands, slices.DeleteFunc(order(n), func(card int) bool { return members>>card&1 == 0 }))
		}
	}
	return inOrder(hands)
}

// messageLists returns those of all lists of k of n cards that have no card twice, ordered by comparing them.
func messageLists(n int, k int) [][]int {
	return inOrder(slices.DeleteFunc(listsOver(order(n), k), func(list []int) bool { return len(list) != k || !tableOk(list) }))
}

// isOf reports whether each card of a message is one of the hand.
func isOf(message []int, hand []int) bool {
	for _, card := range message {
		if !slices.Contains(hand, card) {
			return false
		}
	}
	return true
}

// augmented returns the code that augmenting paths find, by the words of the document, here also for hands of 4 cards.
func augmented(n int, k int) (impl.Code, bool) {
	hands, messages := handLists(n, k), messageLists(n, k-1)
	users := repeated(-1, len(messages))
	var given func(hand int, tried []bool) bool
	given = func(hand int, tried []bool) bool {
		for i, message := range messages {
			if tried[i] || !isOf(message, hands[hand]) {
				continue
			}
			tried[i] = true
			if users[i] < 0 || given(users[i], tried) {
				users[i] = hand
				return true
			}
		}
		return false
	}
	for hand := range hands {
		if !given(hand, make([]bool, len(messages))) {
			return impl.Code{}, false
		}
	}
	c := impl.Code{Deck: n, Hands: hands, Shown: make([][]int, len(hands))}
	for i, hand := range users {
		if hand >= 0 {
			c.Shown[hand] = messages[i]
		}
	}
	return c, true
}

// copied returns a code that shares no memory with another.
func copied(c impl.Code) impl.Code {
	other := impl.Code{Deck: c.Deck}
	for _, hand := range c.Hands {
		other.Hands = append(other.Hands, slices.Clone(hand))
	}
	for _, shown := range c.Shown {
		other.Shown = append(other.Shown, slices.Clone(shown))
	}
	return other
}

// renamed returns the code in which each card x is named names[x].
func renamed(c impl.Code, names []int) impl.Code {
	named := func(cards []int) []int {
		var list []int
		for _, card := range cards {
			list = append(list, names[card])
		}
		return list
	}
	other := copied(c)
	for i, shown := range c.Shown {
		hand := slices.Sorted(slices.Values(named(c.Hands[i])))
		at := slices.IndexFunc(c.Hands, func(list []int) bool { return slices.Equal(list, hand) })
		other.Shown[at] = named(shown)
	}
	return other
}

// validCodes returns codes for hands of 1 to 4 cards, for each number of cards for which there are any.
func validCodes() []impl.Code {
	var codes []impl.Code
	for n := 1; n <= 8; n++ {
		for k := 1; k <= min(n, 4); k++ {
			if c, ok := augmented(n, k); ok {
				codes = append(codes, c, renamed(c, descending(n-1, 0, 1)), renamed(c, append(ascending(1, n, 1), 0)))
			}
		}
	}
	return codes
}

// codeOk reports whether a code is valid, by looking at each hand and at each two messages.
func codeOk(c impl.Code) bool {
	if c.Deck < 1 || c.Deck > 8 || len(c.Hands) == 0 || len(c.Shown) != len(c.Hands) {
		return false
	}
	k := len(c.Hands[0])
	if k < 1 || k > 4 || !sameLists(c.Hands, handLists(c.Deck, k)) {
		return false
	}
	for i, shown := range c.Shown {
		if len(shown) != k-1 || !isOf(shown, c.Hands[i]) || !tableOk(shown) {
			return false
		}
		for _, other := range c.Shown[:i] {
			if slices.Equal(shown, other) {
				return false
			}
		}
	}
	return true
}

// hiddenCard returns the card of a hand that a message of its other cards lacks.
func hiddenCard(hand []int, shown []int) int {
	sum := 0
	for _, card := range hand {
		sum += card
	}
	for _, card := range shown {
		sum -= card
	}
	return sum
}

// wantCode checks the two results of a function that gives a code; if it gives none, want has no hands.
func wantCode(t *testing.T, of string, got impl.Code, ok bool, want impl.Code) {
	t.Helper()
	if ok != (len(want.Hands) > 0) || got.Deck != want.Deck || !sameLists(got.Hands, want.Hands) || !sameLists(got.Shown, want.Shown) {
		t.Errorf("%s is %v, %t; want %v", of, got, ok, want)
	}
}

// wantNamed checks that a code is valid, and that for each hand it names the card that is not shown.
func wantNamed(t *testing.T, c impl.Code) {
	t.Helper()
	if !impl.CodeOk(c) || !codeOk(c) {
		t.Fatalf("%v is not valid: CodeOk is %t", c, impl.CodeOk(c))
	}
	for i, hand := range handLists(c.Deck, len(c.Hands[0])) {
		shown, sent := impl.Encode(c, hand)
		if !sent || !slices.Equal(shown, c.Shown[i]) || len(shown) != len(hand)-1 || !isOf(shown, hand) {
			t.Errorf("for %v, %v, %t is shown in %v", hand, shown, sent, c)
		}
		card, found := impl.Decode(c, shown)
		if !found || card != hiddenCard(hand, shown) || slices.Contains(shown, card) || !slices.Contains(hand, card) {
			t.Errorf("of %v, %v is shown, and the hidden card is %d, %t in %v", hand, shown, card, found, c)
		}
	}
}

// ends returns the first and the last one of the lists, if there are any.
func ends(lists [][]int) [][]int {
	if len(lists) == 0 {
		return nil
	}
	return [][]int{lists[0], lists[len(lists)-1]}
}

// wantNoCode checks the functions of a code that is not valid.
func wantNoCode(t *testing.T, c impl.Code) {
	t.Helper()
	if impl.CodeOk(c) || codeOk(c) {
		t.Errorf("%v is valid: CodeOk is %t", c, impl.CodeOk(c))
	}
	for _, list := range slices.Concat([][]int{nil, {0}, {0, 1}}, ends(c.Hands), ends(c.Shown)) {
		shown, sent := impl.Encode(c, list)
		if sent || len(shown) > 0 {
			t.Errorf("for %v, %v, %t is shown in %v", list, shown, sent, c)
		}
		card, found := impl.Decode(c, list)
		if found || card != 0 {
			t.Errorf("%v is shown, and the hidden card is %d, %t in %v", list, card, found, c)
		}
	}
}

func TestP6FoundCodesNameEachHiddenCard(t *testing.T) {
	for n := 1; n <= impl.MaxDeck; n++ {
		for k := 1; k <= min(n, 3); k++ {
			c, ok := impl.FindCode(n, k)
			if ok != (n <= impl.LargestDeck(k)) {
				t.Errorf("FindCode(%d, %d) is %t, but LargestDeck(%d) is %d", n, k, ok, k, impl.LargestDeck(k))
			}
			if !ok {
				wantCode(t, fmt.Sprintf("FindCode(%d, %d)", n, k), c, ok, impl.Code{})
				continue
			}
			if c.Deck != n || !sameLists(c.Hands, impl.HandsOf(n, k)) {
				t.Errorf("FindCode(%d, %d) has %d cards and the hands %v", n, k, c.Deck, c.Hands)
			}
			wantNamed(t, c)
		}
	}
}

func TestP6AllCodesNameEachHiddenCard(t *testing.T) {
	sizes := map[int]int{}
	for _, c := range validCodes() {
		wantNamed(t, c)
		sizes[len(c.Hands[0])]++
	}
	for k, count := range []int{1: 3, 2: 6, 3: 18, 4: 15} {
		if sizes[k] != count {
			t.Errorf("there are %d codes for hands of %d cards", sizes[k], k)
		}
	}
}

func TestP6RenamedCardsAreNamedToo(t *testing.T) {
	for n := 2; n <= 8; n++ {
		for k := 2; k <= min(n, 3); k++ {
			c, ok := impl.FindCode(n, k)
			if !ok {
				continue
			}
			orders := permsOf(n)
			// Many cards have very many orders, of which some are enough.
			for i := 0; i < len(orders); i += 1 + len(orders)/100 {
				wantNamed(t, renamed(c, orders[i]))
			}
		}
	}
}

func TestP6NoCodeForMoreCards(t *testing.T) {
	for k := 1; k <= 2; k++ {
		n := impl.LargestDeck(k)
		if c, ok := impl.FindCode(n, k); !ok || impl.HallViolation(n, k) {
			t.Errorf("FindCode(%d, %d) = %v, %t, and HallViolation is %t", n, k, c, ok, impl.HallViolation(n, k))
		}
		for n++; n <= impl.MaxDeck; n++ {
			if c, ok := impl.FindCode(n, k); ok || !impl.HallViolation(n, k) {
				t.Errorf("FindCode(%d, %d) = %v, %t, and HallViolation is %t", n, k, c, ok, impl.HallViolation(n, k))
			}
		}
	}
	c, ok := impl.FindCode(impl.LargestDeck(3), 3)
	if !ok || len(c.Shown) != 56 || !sameLists(inOrder(c.Shown), impl.MessagesOf(8, 2)) {
		t.Errorf("the greatest deck for hands of 3 cards has the code %v, %t", c, ok)
	}
}

func TestP6CodesThatShowTheSameTwice(t *testing.T) {
	for _, c := range validCodes() {
		for i := range c.Hands {
			for j := range i {
				// What is shown for another hand does not name this one's hidden card, also where it has only cards of both.
				bad := copied(c)
				bad.Shown[i] = slices.Clone(c.Shown[j])
				if impl.CodeOk(bad) {
					t.Errorf("CodeOk(%v) is true", bad)
				}
			}
		}
	}
}

func TestP9HandsOf(t *testing.T) {
	for _, c := range []struct {
		n, k int
		want string
	}{
		{1, 1, "0"}, {2, 1, "0 1"}, {2, 2, "01"}, {3, 1, "0 1 2"}, {3, 2, "01 02 12"}, {3, 3, "012"}, {4, 2, "01 02 03 12 13 23"}, {4, 3, "012 013 023 123"}, {4, 4, "0123"},
		{5, 3, "012 013 014 023 024 034 123 124 134 234"}, {5, 4, "0123 0124 0134 0234 1234"}, {5, 5, "01234"}, {6, 5, "01234 01235 01245 01345 02345 12345"},
		{7, 6, "012345 012346 012356 012456 013456 023456 123456"}, {8, 1, "0 1 2 3 4 5 6 7"}, {8, 7, "0123456 0123457 0123467 0123567 0124567 0134567 0234567 1234567"}, {8, 8, "01234567"},
	} {
		if got := impl.HandsOf(c.n, c.k); !sameLists(got, digitsOf(c.want)) {
			t.Errorf("HandsOf(%d, %d) = %v", c.n, c.k, got)
		}
	}
	for n := 1; n <= 8; n++ {
		for k := 1; k <= n; k++ {
			if got := impl.HandsOf(n, k); !sameLists(got, handLists(n, k)) {
				t.Errorf("HandsOf(%d, %d) = %v", n, k, got)
			}
		}
		for _, k := range slices.Concat([]int{n + 1, n + 2, n + 8, -n}, noHandSizes) {
			if got := impl.HandsOf(n, k); len(got) > 0 {
				t.Errorf("HandsOf(%d, %d) = %v", n, k, got)
			}
		}
	}
	for _, n := range noDecks {
		for _, k := range slices.Concat([]int{1, 2, 3, 4, 8, n, n - 1, n + 1}, noHandSizes) {
			if got := impl.HandsOf(n, k); len(got) > 0 {
				t.Errorf("HandsOf(%d, %d) = %v", n, k, got)
			}
		}
	}
}

func TestP9MessagesOf(t *testing.T) {
	for _, c := range []struct {
		n, k int
		want string
	}{
		{1, 1, "0"}, {2, 1, "0 1"}, {2, 2, "01 10"}, {3, 1, "0 1 2"}, {3, 2, "01 02 10 12 20 21"}, {3, 3, "012 021 102 120 201 210"}, {4, 2, "01 02 03 10 12 13 20 21 23 30 31 32"},
		{4, 3, "012 013 021 023 031 032 102 103 120 123 130 132 201 203 210 213 230 231 301 302 310 312 320 321"}, {8, 1, "0 1 2 3 4 5 6 7"},
	} {
		if got := impl.MessagesOf(c.n, c.k); !sameLists(got, digitsOf(c.want)) {
			t.Errorf("MessagesOf(%d, %d) = %v", c.n, c.k, got)
		}
	}
	for n := 1; n <= 8; n++ {
		// There is one message of no cards.
		if got := impl.MessagesOf(n, 0); len(got) != 1 || len(got[0]) != 0 {
			t.Errorf("MessagesOf(%d, 0) = %v", n, got)
		}
		count := 1
		for k := 1; k <= min(n, 3); k++ {
			count *= n - k + 1
			if got := impl.MessagesOf(n, k); len(got) != count || !sameLists(got, messageLists(n, k)) {
				t.Errorf("MessagesOf(%d, %d) = %v", n, k, got)
			}
		}
		for _, k := range slices.Concat([]int{4, 5, 6, 7, 8, n + 1, n + 2, -n}, noHandSizes) {
			if k == 0 {
				continue
			}
			if got := impl.MessagesOf(n, k); len(got) > 0 {
				t.Errorf("MessagesOf(%d, %d) = %v", n, k, got)
			}
		}
	}
	for _, n := range noDecks {
		for _, k := range slices.Concat([]int{1, 2, 3, 4, n, n - 1, n + 1}, noHandSizes) {
			if got := impl.MessagesOf(n, k); len(got) > 0 {
				t.Errorf("MessagesOf(%d, %d) = %v", n, k, got)
			}
		}
	}
}

func TestP9LargestDeck(t *testing.T) {
	for k, want := range []int{1: 1, 2: 3, 3: 8, 4: 27} {
		if got := impl.LargestDeck(k); k > 0 && got != want {
			t.Errorf("LargestDeck(%d) = %d, want %d", k, got, want)
		}
	}
	for _, k := range slices.Concat([]int{5, 6, 7, 8, 20, 21, 1<<32 + 1, 1<<32 + 4}, noHandSizes) {
		if got := impl.LargestDeck(k); got != -1 {
			t.Errorf("LargestDeck(%d) = %d", k, got)
		}
	}
	// It is the greatest number of cards that have no more hands than messages.
	for k := 1; k <= 4; k++ {
		n := impl.LargestDeck(k)
		for cards := max(n-1, k); cards <= n+1; cards++ {
			hands, messages := 1, 1
			for i := range k {
				hands = hands * (cards - i) / (i + 1)
				if i > 0 {
					messages *= cards - i + 1
				}
			}
			if hands > messages != (cards > n) {
				t.Errorf("%d cards have %d hands of %d cards and %d messages, but LargestDeck is %d", cards, hands, k, messages, n)
			}
		}
	}
}

func TestP9CodeOk(t *testing.T) {
	for _, c := range []struct {
		deck         int
		hands, shown string
		want         bool
	}{
		{2, "01", "0", true}, {2, "01", "1", true}, {2, "01", "2", false}, {2, "01", "01", false}, {2, "10", "0", false}, {2, "00", "0", false}, {2, "01", "0 1", false}, {2, "01", "", false}, {2, "02", "0", false}, {3, "01", "0", false}, {1, "01", "0", false},
		{3, "01 02 12", "0 2 1", true}, {3, "01 02 12", "1 0 2", true}, {3, "01 02 12", "0 2 2", false}, {3, "01 02 12", "0 0 1", false}, {3, "01 02 12", "2 0 1", false}, {3, "01 02 12", "0 1 2", false}, {3, "01 02 12", "1 2 0", false},
		{3, "02 01 12", "2 0 1", false}, {3, "01 12 02", "0 1 2", false}, {3, "01 02", "0 2", false}, {3, "01 02 12", "0 2", false}, {3, "01 02 12", "0 2 1 1", false}, {3, "01 02 12 12", "0 2 1 1", false}, {2, "01 02 12", "0 2 1", false}, {4, "01 02 12", "0 2 1", false},
		{3, "012", "01", true}, {3, "012", "21", true}, {3, "012", "11", false}, {3, "012", "0", false}, {3, "012", "012", false}, {3, "012", "03", false}, {3, "021", "01", false}, {3, "210", "01", false},
		{4, "012 013 023 123", "01 03 02 12", true}, {4, "012 013 023 123", "01 10 02 12", true}, {4, "012 013 023 123", "01 01 02 12", false}, {4, "012 013 023 123", "10 01 20 21", true}, {4, "012 013 023 123", "01 03 02 02", false},
		{4, "0123", "012", true}, {4, "0123", "321", true}, {4, "0123", "322", false}, {4, "0123", "32", false}, {4, "0123", "0123", false}, {4, "0123", "014", false},
		{5, "0123 0124 0134 0234 1234", "012 021 013 023 123", true}, {5, "0123 0124 0134 0234 1234", "012 012 013 023 123", false}, {5, "01234", "0123", false}, {5, "01234", "012", false}, {6, "012345", "01234", false}, {8, "01234567", "0123456", false},
		// All pairs of 4 cards have more hands than messages.
		{4, "01 02 03 12 13 23", "0 2 3 1 1 3", false}, {4, "01 02 03 12 13 23", "0 0 0 1 1 2", false},
	} {
		code := impl.Code{Deck: c.deck, Hands: digitsOf(c.hands), Shown: digitsOf(c.shown)}
		if got := impl.CodeOk(code); got != c.want || codeOk(code) != c.want {
			t.Errorf("CodeOk(%v) = %t", code, got)
		}
	}
}

func TestP9HandsOfOneCardHaveOneMessage(t *testing.T) {
	for _, message := range [][]int{nil, {}, make([]int, 0, 3)} {
		c := impl.Code{Deck: 1, Hands: [][]int{{0}}, Shown: [][]int{message}}
		wantNamed(t, c)
		card, ok := impl.Decode(c, nil)
		again, fine := impl.Decode(c, []int{})
		if card != 0 || !ok || again != 0 || !fine {
			t.Errorf("the only card is %d, %t and %d, %t", card, ok, again, fine)
		}
		for _, shown := range [][]int{{0}, {1}, {-1}, {0, 0}, repeated(0, 5000)} {
			if card, ok := impl.Decode(c, shown); ok || card != 0 {
				t.Errorf("%v is shown, and the hidden card is %d, %t", shown, card, ok)
			}
		}
	}
	for n := 2; n <= 8; n++ {
		c := impl.Code{Deck: n, Hands: handLists(n, 1), Shown: make([][]int, n)}
		wantNoCode(t, c)
		c.Shown = handLists(n, 1)
		wantNoCode(t, c)
	}
	wantNoCode(t, impl.Code{Deck: 1, Hands: [][]int{{0}}, Shown: [][]int{{0}}})
	wantNoCode(t, impl.Code{Deck: 1, Hands: [][]int{{0}}})
	wantNoCode(t, impl.Code{Deck: 1, Hands: [][]int{{0}}, Shown: [][]int{nil, nil}})
	wantNoCode(t, impl.Code{Deck: 1, Hands: [][]int{nil}, Shown: [][]int{nil}})
	wantNoCode(t, impl.Code{Deck: 1, Hands: [][]int{{1}}, Shown: [][]int{nil}})
	wantNoCode(t, impl.Code{Deck: 1, Hands: [][]int{{-1}}, Shown: [][]int{nil}})
	wantNoCode(t, impl.Code{Deck: 2, Hands: [][]int{{0}}, Shown: [][]int{nil}})
	wantNoCode(t, impl.Code{Deck: 1, Hands: [][]int{{0}, {0}}, Shown: [][]int{nil, nil}})
}

func TestP9CodesWithoutHands(t *testing.T) {
	for _, deck := range slices.Concat(order(9), noDecks) {
		wantNoCode(t, impl.Code{Deck: deck})
		wantNoCode(t, impl.Code{Deck: deck, Hands: [][]int{}, Shown: [][]int{}})
		wantNoCode(t, impl.Code{Deck: deck, Shown: [][]int{{0}}})
		wantNoCode(t, impl.Code{Deck: deck, Shown: [][]int{nil}})
		wantNoCode(t, impl.Code{Deck: deck, Hands: [][]int{nil}, Shown: [][]int{nil}})
		wantNoCode(t, impl.Code{Deck: deck, Hands: [][]int{{}, {}}, Shown: [][]int{{}, {}}})
	}
}

func TestP9CodeOkOfManyCodes(t *testing.T) {
	for _, c := range []struct {
		deck, k, valid int
		elements       []int
	}{
		{2, 2, 2, []int{-2, -1, 0, 1, 2}}, {3, 2, 2, []int{-1, 0, 1, 2, 3}}, {3, 3, 6, []int{-3, -2, -1, 0, 1, 2, 3}}, {2, 1, 0, []int{0, 1, 2}}, {3, 1, 0, []int{0, 1, 2}}, {4, 4, 24, []int{-1, 0, 1, 2, 3, 4}},
	} {
		hands := handLists(c.deck, c.k)
		valid := 0
		lists := listsOver(c.elements, c.k)
		for _, choice := range listsOver(order(len(lists)), len(hands)) {
			code := impl.Code{Deck: c.deck, Hands: hands}
			for _, i := range choice {
				code.Shown = append(code.Shown, lists[i])
			}
			want := codeOk(code)
			if got := impl.CodeOk(code); got != want {
				t.Errorf("CodeOk(%v) = %t", code, got)
			}
			if want {
				valid++
			}
		}
		if valid != c.valid {
			t.Errorf("%d codes for hands of %d of %d cards are valid", valid, c.k, c.deck)
		}
	}
}

func TestP9CodeOkOfAllMessagesOfTheirHands(t *testing.T) {
	hands := handLists(4, 3)
	valid := 0
	for _, choice := range listsOver(order(6), 4) {
		if len(choice) < 4 {
			continue
		}
		code := impl.Code{Deck: 4, Hands: hands}
		for i, message := range choice {
			code.Shown = append(code.Shown, performed(hands[i], permsOf(3)[message])[:2])
		}
		if got := impl.CodeOk(code); got != codeOk(code) {
			t.Errorf("CodeOk(%v) = %t", code, got)
		} else if got {
			valid++
			wantNamed(t, code)
		}
	}
	if valid < 500 || valid == 1296 {
		t.Errorf("%d of 1296 codes for hands of 3 of 4 cards are valid", valid)
	}
}

func TestP9CodesWithWrongHands(t *testing.T) {
	for _, c := range validCodes() {
		n, last := c.Deck, len(c.Hands)-1
		for _, deck := range slices.Concat(order(9), noDecks) {
			if deck != n {
				wantNoCode(t, impl.Code{Deck: deck, Hands: c.Hands, Shown: c.Shown})
			}
		}
		wantNoCode(t, impl.Code{Deck: n, Hands: c.Hands[:last], Shown: c.Shown[:last]})
		wantNoCode(t, impl.Code{Deck: n, Hands: c.Hands[1:], Shown: c.Shown[1:]})
		wantNoCode(t, impl.Code{Deck: n, Hands: c.Hands[:last], Shown: c.Shown})
		wantNoCode(t, impl.Code{Deck: n, Shown: c.Shown})
		wantNoCode(t, impl.Code{Deck: n, Hands: slices.Concat(c.Hands, c.Hands[last:]), Shown: slices.Concat(c.Shown, c.Shown[last:])})
		wantNoCode(t, impl.Code{Deck: n, Hands: slices.Concat(c.Hands, [][]int{{n}}), Shown: slices.Concat(c.Shown, [][]int{nil})})
		wantNoCode(t, impl.Code{Deck: n, Hands: c.Shown, Shown: c.Hands})
		for i, hand := range c.Hands {
			if i > 0 {
				bad := copied(c)
				bad.Hands[i], bad.Hands[i-1] = bad.Hands[i-1], bad.Hands[i]
				wantNoCode(t, bad)
				bad.Shown[i], bad.Shown[i-1] = bad.Shown[i-1], bad.Shown[i]
				wantNoCode(t, bad)
			}
			back := slices.Clone(hand)
			slices.Reverse(back)
			wrong := [][]int{nil, hand[1:], hand[:len(hand)-1], append(slices.Clone(hand), n), append(slices.Clone(hand), hand[0]), append([]int{-1}, hand...), c.Hands[(i+1)%len(c.Hands)], back, turned(hand, 1), turned(hand, 255)}
			for _, x := range []int{-1, n, n + 1, 8, 12, math.MaxInt64, math.MinInt64} {
				wrong = append(wrong, append([]int{x}, hand[1:]...), append(slices.Clone(hand[:len(hand)-1]), x))
			}
			for _, list := range wrong {
				if !slices.Equal(list, hand) {
					bad := copied(c)
					bad.Hands[i] = slices.Clone(list)
					wantNoCode(t, bad)
				}
			}
		}
	}
}

func TestP9CodesWithWrongMessages(t *testing.T) {
	for _, c := range validCodes() {
		n, last := c.Deck, len(c.Shown)-1
		wantNoCode(t, impl.Code{Deck: n, Hands: c.Hands, Shown: c.Shown[:last]})
		wantNoCode(t, impl.Code{Deck: n, Hands: c.Hands, Shown: c.Shown[1:]})
		wantNoCode(t, impl.Code{Deck: n, Hands: c.Hands})
		wantNoCode(t, impl.Code{Deck: n, Hands: c.Hands, Shown: slices.Concat(c.Shown, c.Shown[last:])})
		wantNoCode(t, impl.Code{Deck: n, Hands: c.Hands, Shown: slices.Concat(c.Shown, [][]int{nil})})
		wantNoCode(t, impl.Code{Deck: n, Hands: c.Hands, Shown: slices.Concat(c.Shown, [][]int{c.Hands[last]})})
		wantNoCode(t, impl.Code{Deck: n, Hands: c.Hands, Shown: c.Hands})
		for i, shown := range c.Shown {
			hand := c.Hands[i]
			wrong := [][]int{hand, append(slices.Clone(shown), hiddenCard(hand, shown)), append(slices.Clone(shown), n), repeated(hand[0], 5000)}
			for j := range shown {
				wrong = append(wrong, append(slices.Clone(shown[:j]), shown[j+1:]...))
				for _, x := range []int{-1 - shown[j], -1, n, n + 1, 8, 12, math.MaxInt64, math.MinInt64, shown[j] + 1<<32} {
					list := slices.Clone(shown)
					list[j] = x
					wrong = append(wrong, list)
				}
				for card := range n {
					// A card that is not of the hand, or one that is shown already.
					if list := slices.Clone(shown); !slices.Contains(hand, card) || slices.Contains(shown, card) && card != shown[j] {
						list[j] = card
						wrong = append(wrong, list)
					}
				}
			}
			for _, list := range wrong {
				bad := copied(c)
				bad.Shown[i] = slices.Clone(list)
				wantNoCode(t, bad)
			}
		}
	}
}

func TestP9FindCode(t *testing.T) {
	for n := 1; n <= 8; n++ {
		for k := 1; k <= min(n, 3); k++ {
			of := fmt.Sprintf("FindCode(%d, %d)", n, k)
			got, ok := impl.FindCode(n, k)
			want, _ := augmented(n, k)
			wantCode(t, of, got, ok, want)
			if text, found := foundCodes[[2]int{n, k}]; found {
				wantCode(t, of, got, ok, impl.Code{Deck: n, Hands: handLists(n, k), Shown: digitsOf(text)})
			} else if ok != (n == 1) {
				t.Errorf("%s is %v, %t", of, got, ok)
			}
		}
	}
	one, ok := impl.FindCode(1, 1)
	wantCode(t, "FindCode(1, 1)", one, ok, impl.Code{Deck: 1, Hands: [][]int{{0}}, Shown: [][]int{{}}})
}

func TestP9FindCodeFails(t *testing.T) {
	wantNone := func(n int, k int) {
		t.Helper()
		got, ok := impl.FindCode(n, k)
		wantCode(t, fmt.Sprintf("FindCode(%d, %d)", n, k), got, ok, impl.Code{})
	}
	for n := 1; n <= 8; n++ {
		// There are codes for hands of 4 cards, but they are not looked for.
		for _, k := range slices.Concat([]int{4, 5, 6, 7, 8, n + 1, n + 2, -n}, noHandSizes) {
			wantNone(n, k)
		}
	}
	for _, n := range noDecks {
		for _, k := range slices.Concat([]int{1, 2, 3, 4, 8, n, n - 1, n + 1}, noHandSizes) {
			wantNone(n, k)
		}
	}
	for _, lack := range [][2]int{{2, 1}, {8, 1}, {4, 2}, {5, 2}, {8, 2}} {
		wantNone(lack[0], lack[1])
	}
}

func TestP9EncodeOfListsThatAreNoHands(t *testing.T) {
	for _, c := range validCodes() {
		lists := slices.Concat([][]int{nil, {}, {c.Deck}, {-1}, {math.MaxInt64}, {math.MinInt64}, repeated(0, 5000), order(c.Deck + 1), {0, 0}, {0, 1, 1}}, c.Shown)
		for k := 1; k <= c.Deck; k++ {
			lists = append(lists, handLists(c.Deck, k)...)
		}
		for _, hand := range c.Hands {
			for _, a := range permsOf(len(hand)) {
				lists = append(lists, performed(hand, a))
			}
			lists = append(lists, append(slices.Clone(hand), c.Deck), append(slices.Clone(hand), hand[len(hand)-1]), turned(hand, 1), turned(hand, 15), append(slices.Clone(hand[1:]), c.Deck))
		}
		for _, list := range lists {
			var want []int
			at := slices.IndexFunc(c.Hands, func(hand []int) bool { return slices.Equal(hand, list) })
			if at >= 0 {
				want = c.Shown[at]
			}
			got, ok := impl.Encode(c, list)
			if ok != (at >= 0) || !slices.Equal(got, want) {
				t.Errorf("for %v, %v, %t is shown in %v", list, got, ok, c)
			}
		}
	}
}

func TestP9DecodeOfAllMessages(t *testing.T) {
	for _, c := range validCodes() {
		k := len(c.Hands[0])
		lists := slices.Concat([][]int{nil, {}, {c.Deck}, {-1}, {math.MaxInt64}, {math.MinInt64}, repeated(0, 5000), order(c.Deck + 1), {0, 0}, {1, 0, 0}}, c.Hands)
		for length := range min(c.Deck, 3) + 1 {
			lists = append(lists, messageLists(c.Deck, length)...)
		}
		for _, shown := range c.Shown {
			lists = append(lists, append(slices.Clone(shown), 0), append(slices.Clone(shown), c.Deck), turned(shown, 1), turned(shown, 15))
		}
		named := map[string]bool{}
		for _, list := range lists {
			want := 0
			at := slices.IndexFunc(c.Shown, func(shown []int) bool { return slices.Equal(shown, list) })
			if at >= 0 {
				want = hiddenCard(c.Hands[at], list)
				named[fmt.Sprint(list)] = true
			}
			got, ok := impl.Decode(c, list)
			if ok != (at >= 0) || got != want {
				t.Errorf("%v is shown, and the hidden card is %d, %t, not %d, in %v", list, got, ok, want, c)
			}
		}
		if len(named) != len(c.Hands) {
			t.Errorf("only %d messages of %d cards name a card in %v", len(named), k-1, c)
		}
	}
}

func TestP9HallViolation(t *testing.T) {
	for n := 1; n <= 8; n++ {
		for k := 1; k <= 4; k++ {
			// Hands of more cards than the deck has do not exist, and so they are not more than the messages.
			want := k <= n && len(handLists(n, k)) > len(messageLists(n, k-1))
			if got := impl.HallViolation(n, k); got != want || want != (k == 1 && n >= 2 || k == 2 && n >= 4) {
				t.Errorf("HallViolation(%d, %d) = %t, want %t", n, k, got, want)
			}
		}
		for _, k := range slices.Concat([]int{5, 6, 7, 8, n + 4, n + 8, -n}, noHandSizes) {
			if impl.HallViolation(n, k) {
				t.Errorf("HallViolation(%d, %d) is true", n, k)
			}
		}
	}
	for _, n := range noDecks {
		for _, k := range slices.Concat([]int{1, 2, 3, 4, 5, n, n - 1, n + 1}, noHandSizes) {
			if impl.HallViolation(n, k) {
				t.Errorf("HallViolation(%d, %d) is true", n, k)
			}
		}
	}
}

func TestP9CodesAreNew(t *testing.T) {
	for n := 1; n <= 8; n++ {
		for k := 1; k <= min(n, 4); k++ {
			want, found := augmented(n, k)
			for range 3 {
				hands, messages := impl.HandsOf(n, k), impl.MessagesOf(n, k-1)
				if !sameLists(hands, handLists(n, k)) || !sameLists(messages, messageLists(n, k-1)) {
					t.Fatalf("HandsOf(%d, %d) = %v, and the messages are %v", n, k, hands, messages)
				}
				results := slices.Concat(hands, messages)
				if c, ok := impl.FindCode(n, k); k < 4 {
					wantCode(t, fmt.Sprintf("FindCode(%d, %d)", n, k), c, ok, want)
					results = slices.Concat(results, c.Hands, c.Shown)
				}
				if found {
					given := copied(want)
					for i, hand := range given.Hands {
						shown, ok := impl.Encode(given, hand)
						wantPerm(t, fmt.Sprintf("what is shown for %v", hand), shown, ok, append([]int{}, given.Shown[i]...))
						results = append(results, shown)
					}
					results = slices.Concat(results, given.Hands, given.Shown)
				}
				spoil(t, fmt.Sprintf("hands of %d of %d cards", k, n), results)
			}
		}
	}
}

func TestP9CodesAreNotChanged(t *testing.T) {
	// Behind each list of a code, there are more elements that are none of it.
	behind := func(lists [][]int) [][]int {
		longer := make([][]int, 0, len(lists)+2)
		for _, list := range lists {
			longer = append(longer, append(slices.Clone(list), 97, 98, 99)[:len(list)])
		}
		return append(longer, []int{96}, []int{95})[:len(lists)]
	}
	whole := func(lists [][]int) string {
		text := fmt.Sprint(lists[:cap(lists)])
		for _, list := range lists {
			text += fmt.Sprint(list[:cap(list)])
		}
		return text
	}
	codes := validCodes()
	for _, c := range validCodes() {
		bad := copied(c)
		bad.Shown[len(bad.Shown)-1] = []int{5, 5, 9}
		codes = append(codes, bad)
	}
	for _, from := range codes {
		c := impl.Code{Deck: from.Deck, Hands: behind(from.Hands), Shown: behind(from.Shown)}
		lists := behind(slices.Concat(from.Hands, from.Shown, [][]int{{3, 2, 1}, {0, 0}}))
		before := whole(c.Hands) + whole(c.Shown) + whole(lists)
		impl.CodeOk(c)
		for _, list := range slices.Concat(lists, c.Hands, c.Shown) {
			impl.Encode(c, list)
			impl.Decode(c, list)
		}
		if after := whole(c.Hands) + whole(c.Shown) + whole(lists); after != before {
			t.Fatalf("%s has become %s", before, after)
		}
	}
}

func TestP9CodesAtTheSameTime(t *testing.T) {
	var group sync.WaitGroup
	for worker := range 8 {
		group.Go(func() {
			for i := range 12 {
				n := (worker+i)%6 + 3
				c, ok := impl.FindCode(n, 3)
				wantCode(t, fmt.Sprintf("FindCode(%d, 3)", n), c, ok, impl.Code{Deck: n, Hands: handLists(n, 3), Shown: digitsOf(foundCodes[[2]int{n, 3}])})
				at := i % len(c.Hands)
				shown, sent := impl.Encode(c, c.Hands[at])
				if card, found := impl.Decode(c, shown); !sent || !found || card != hiddenCard(c.Hands[at], shown) {
					t.Errorf("of %v, %v, %t is shown, and the hidden card is %d, %t", c.Hands[at], shown, sent, card, found)
				}
			}
		})
	}
	group.Wait()
}
