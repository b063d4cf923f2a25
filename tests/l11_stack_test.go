package tests

import (
	"fmt"
	"math"
	"slices"
	"strings"
	"sync"
	"testing"

	"loop.example/g00846/impl"
)

// colorsOf returns the colors that a text writes one behind the other.
func colorsOf(text string) []int {
	var colors []int
	for _, digit := range text {
		colors = append(colors, int(digit-'0'))
	}
	return colors
}

// stackOf returns a stack with the colors of a text.
func stackOf(text string, window int) impl.Stack {
	return impl.Stack{Colors: colorsOf(text), Window: window}
}

// deBruijns are the colors of DeBruijn, for the window that the index says.
var deBruijns = []string{
	1: "01", 2: "0011", 3: "00011101", 4: "0000111101100101", 5: "00000111110111001101011000101001",
	6: "0000001111110111100111010111000110110100110010110000101010001001",
}

// maximalTaps are the lists of taps for which IsMaximal is true, for the number of colors that the index says.
var maximalTaps = [][][]int{
	1: {{1}}, 2: {{1, 2}}, 3: {{1, 3}, {2, 3}}, 4: {{1, 4}, {3, 4}},
	5: {{2, 5}, {3, 5}, {1, 2, 3, 5}, {1, 2, 4, 5}, {1, 3, 4, 5}, {2, 3, 4, 5}},
	6: {{1, 6}, {5, 6}, {1, 2, 5, 6}, {1, 3, 4, 6}, {1, 4, 5, 6}, {2, 3, 5, 6}},
}

// noWindows are no lengths of a window.
var noWindows = slices.Concat([]int{0, 7, 8, 9, 12, 62, 63, 64, 65, -4, -5, -6, -7, 1<<32 + 3, 1<<32 + 6, math.MinInt64 + 3, math.MinInt64 + 6}, farNumbers)

// outsideOf returns numbers that are not from 0 up to n.
func outsideOf(n int) []int {
	return []int{-1, -2, -n, -n - 1, n, n + 1, 2 * n, 1 << 32, 1<<32 + 1, -1 << 32, -1<<32 + 1, 1 << 62, math.MaxInt64 - 1, math.MaxInt64, math.MinInt64, math.MinInt64 + 1}
}

// windowOf returns the colors of a window, which may go around the end several times.
func windowOf(s impl.Stack, at int) []int {
	var window []int
	for i := range s.Window {
		window = append(window, s.Colors[(at+i)%len(s.Colors)])
	}
	return window
}

// cutBy returns the stack whose position 0 is the position k of s.
func cutBy(s impl.Stack, k int) impl.Stack {
	return impl.Stack{Colors: windowOf(impl.Stack{Colors: s.Colors, Window: len(s.Colors)}, k), Window: s.Window}
}

// stackOk reports whether a stack is valid, by looking at each pair of its windows.
func stackOk(s impl.Stack) bool {
	if s.Window < 1 || s.Window > 6 || len(s.Colors) < s.Window || len(s.Colors) > 64 {
		return false
	}
	for i, x := range s.Colors {
		if x < 0 || x > 1 {
			return false
		}
		for j := range i {
			if slices.Equal(windowOf(s, i), windowOf(s, j)) {
				return false
			}
		}
	}
	return true
}

// shortStacks returns all stacks with at most n colors and a Window from 1 to MaxWindow, valid or not.
func shortStacks(n int) []impl.Stack {
	var stacks []impl.Stack
	for length := range n + 1 {
		for _, colors := range colorLists(length) {
			for window := 1; window <= 6; window++ {
				stacks = append(stacks, impl.Stack{Colors: colors, Window: window})
			}
		}
	}
	return stacks
}

// validStacks returns the valid ones of the short stacks, and longer ones up to 64 colors.
func validStacks() []impl.Stack {
	stacks := slices.DeleteFunc(shortStacks(9), func(s impl.Stack) bool { return !stackOk(s) })
	for window := 1; window <= 6; window++ {
		whole := stackOf(deBruijns[window], window)
		back := cutBy(whole, 0)
		slices.Reverse(back.Colors)
		stacks = append(stacks, whole, back, cutBy(whole, 1), cutBy(back, len(back.Colors)-1))
		for _, taps := range maximalTaps[window] {
			stacks = append(stacks, impl.Stack{Colors: shifted(taps, colorsOf("000001")[6-window:]), Window: window})
		}
	}
	return stacks
}

// tapLists returns all ascending lists of numbers from 1 to n that end with n.
func tapLists(n int) [][]int {
	var lists [][]int
	for members := range 1 << (n - 1) {
		lists = append(lists, slices.DeleteFunc(ascending(1, n+1, 1), func(tap int) bool { return tap < n && members>>(tap-1)&1 == 0 }))
	}
	return lists
}

// shifted returns the colors of a shift register, up to the least position but 0 at which the seed stands again.
func shifted(taps []int, seed []int) []int {
	colors := slices.Clone(seed)
	for i := len(seed); i < 200; i++ {
		color := 0
		for _, tap := range taps {
			color ^= colors[i-tap]
		}
		colors = append(colors, color)
	}
	end := 1
	for !slices.Equal(colors[end:end+len(seed)], seed) {
		end++
	}
	return colors[:end]
}

// greedy returns the colors of DeBruijn by looking for each window in the text so far.
func greedy(window int) []int {
	text := strings.Repeat("0", window)
	for {
		kept := text[len(text)-window+1:]
		switch {
		case !strings.Contains(text, kept+"1"):
			text += "1"
		case !strings.Contains(text, kept+"0"):
			text += "0"
		default:
			return colorsOf(strings.TrimSuffix(text, kept))
		}
	}
}

// wantStack checks the two results of a function that gives a stack; if want is nil, it gives none.
func wantStack(t *testing.T, of string, got impl.Stack, ok bool, want []int, window int) {
	t.Helper()
	if want == nil {
		window = 0
	}
	if ok != (want != nil) || !slices.Equal(got.Colors, want) || got.Window != window {
		t.Errorf("%s is %v, %t; want %v with the window %d", of, got, ok, want, window)
	}
}

// deBruijn returns what DeBruijn returns for a window from 1 to MaxWindow.
func deBruijn(t *testing.T, window int) impl.Stack {
	t.Helper()
	s, ok := impl.DeBruijn(window)
	if !ok || s.Window != window || len(s.Colors) != 1<<window {
		t.Fatalf("DeBruijn(%d) = %v, %t", window, s, ok)
	}
	return s
}

func TestP6DeBruijnHasEachListAtItsPosition(t *testing.T) {
	for window := 1; window <= impl.MaxWindow; window++ {
		s := deBruijn(t, window)
		if !impl.StackOk(s) || !stackOk(s) {
			t.Errorf("DeBruijn(%d) = %v is not valid", window, s)
		}
		found := map[int]bool{}
		for _, list := range colorLists(window) {
			at := impl.FindWindow(s, list)
			got, ok := impl.WindowAt(s, at)
			wantPerm(t, fmt.Sprintf("the window of %v at %d", s, at), got, ok, list)
			found[at] = true
		}
		if len(found) != 1<<window {
			t.Errorf("the lists of %d colors are found at %v", window, found)
		}
	}
}

func TestP6ACutMovesEachListOfDeBruijn(t *testing.T) {
	for window := 1; window <= impl.MaxWindow; window++ {
		s := deBruijn(t, window)
		n := len(s.Colors)
		for k := range n {
			cut, ok := impl.CutStack(s, k)
			if !ok || !impl.StackOk(cut) {
				t.Fatalf("CutStack(%v, %d) = %v, %t", s, k, cut, ok)
			}
			for _, list := range colorLists(window) {
				at := impl.FindWindow(cut, list)
				if want := (impl.FindWindow(s, list) - k + n) % n; at != want || !slices.Equal(windowOf(cut, at), list) {
					t.Errorf("%v is found at %d, not at %d, after %d of %v are cut", list, at, want, k, s)
				}
			}
		}
	}
}

func TestP6WindowsNameTheirPosition(t *testing.T) {
	for _, s := range validStacks() {
		for at := range s.Colors {
			window, ok := impl.WindowAt(s, at)
			if !ok || !slices.Equal(window, windowOf(s, at)) || impl.FindWindow(s, window) != at {
				t.Errorf("the window of %v at %d is %v, %t, and is found at %d", s, at, window, ok, impl.FindWindow(s, window))
			}
		}
	}
}

func TestP6CutsMoveTheWindowsOfAllStacks(t *testing.T) {
	for _, s := range validStacks() {
		n := len(s.Colors)
		for k := range n {
			cut, ok := impl.CutStack(s, k)
			if !ok || !impl.StackOk(cut) {
				t.Fatalf("CutStack(%v, %d) = %v, %t", s, k, cut, ok)
			}
			for at := range n {
				if got := impl.FindWindow(cut, windowOf(s, at)); got != (at-k+n)%n {
					t.Errorf("the window of %v at %d is found at %d after %d colors are cut", s, at, got, k)
				}
			}
			back, ok := impl.CutStack(cut, (n-k)%n)
			wantStack(t, fmt.Sprintf("%v cut by %d and back", s, k), back, ok, s.Colors, s.Window)
		}
	}
}

func TestP6ShiftStacksNameTheirPositions(t *testing.T) {
	for n := 1; n <= impl.MaxWindow; n++ {
		for _, taps := range tapLists(n) {
			for _, seed := range colorLists(n)[1:] {
				s, ok := impl.ShiftStack(taps, seed)
				if !ok || s.Window != n || len(s.Colors) == 0 || impl.StackOk(s) != (len(s.Colors) >= n) {
					t.Fatalf("ShiftStack(%v, %v) = %v, %t, whose validity is %t", taps, seed, s, ok, impl.StackOk(s))
				}
				if !slices.Equal(windowOf(s, 0), seed) {
					t.Errorf("ShiftStack(%v, %v) = %v does not begin with its seed", taps, seed, s)
				}
				for at := range s.Colors {
					if window := windowOf(s, at); len(s.Colors) >= n && impl.FindWindow(s, window) != at {
						t.Errorf("the window %v of ShiftStack(%v, %v) is found at %d, not at %d", window, taps, seed, impl.FindWindow(s, window), at)
					}
				}
			}
		}
	}
}

func TestP6MaximalStacksHaveAllListsButTheZeros(t *testing.T) {
	for n := 1; n <= impl.MaxWindow; n++ {
		for _, taps := range maximalTaps[n] {
			for _, seed := range colorLists(n)[1:] {
				s, ok := impl.ShiftStack(taps, seed)
				if !ok || len(s.Colors) != 1<<n-1 || impl.FindWindow(s, repeated(0, n)) != -1 {
					t.Errorf("ShiftStack(%v, %v) = %v, %t", taps, seed, s, ok)
				}
				for _, list := range colorLists(n)[1:] {
					if at := impl.FindWindow(s, list); at < 0 || !slices.Equal(windowOf(s, at), list) {
						t.Errorf("%v is found at %d in ShiftStack(%v, %v) = %v", list, at, taps, seed, s)
					}
				}
			}
		}
	}
}

func TestP6IsMaximalAgreesWithTheNumberOfColors(t *testing.T) {
	for n := 1; n <= impl.MaxWindow; n++ {
		for _, taps := range tapLists(n) {
			s, ok := impl.ShiftStack(taps, colorsOf("000001")[6-n:])
			if got := impl.IsMaximal(taps, n); !ok || got != (len(s.Colors) == 1<<n-1) {
				t.Errorf("IsMaximal(%v, %d) = %t, but the stack %v, %t has %d colors", taps, n, got, s, ok, len(s.Colors))
			}
		}
	}
}

func TestP9StackOk(t *testing.T) {
	for _, c := range []struct {
		s    impl.Stack
		want bool
	}{
		{impl.Stack{}, false}, {stackOf("", 1), false}, {impl.Stack{Colors: []int{}, Window: 1}, false}, {stackOf("0", 1), true}, {stackOf("1", 1), true}, {stackOf("01", 1), true}, {stackOf("10", 1), true},
		{stackOf("100", 2), true}, {stackOf("0011", 2), true}, {stackOf("010", 2), true}, {stackOf("1100", 2), true}, {stackOf("00010111", 3), true}, {stackOf("0001", 3), true}, {stackOf("000101", 4), true},
		// Two equal windows, some of them only around the end.
		{stackOf("00", 1), false}, {stackOf("011", 1), false}, {stackOf("1010", 2), false}, {stackOf("00110", 2), false}, {stackOf("0110", 2), true}, {stackOf("01100", 2), false}, {stackOf("0011010", 3), true},
		{stackOf("00110100", 3), false}, {stackOf("000111010", 3), false}, {stackOf("0101", 3), false}, {stackOf("0000111101100100", 4), false},
		// As many colors as Window, and fewer.
		{stackOf("01", 2), true}, {stackOf("00", 2), false}, {stackOf("001", 3), true}, {stackOf("0101", 4), false}, {stackOf("0111", 4), true}, {stackOf("00101", 5), true}, {stackOf("000001", 6), true}, {stackOf("001011", 6), true},
		{stackOf("010101", 6), false}, {stackOf("011011", 6), false}, {stackOf("111111", 6), false}, {stackOf("1", 2), false}, {stackOf("01", 3), false}, {stackOf("001", 4), false}, {stackOf("0001", 5), false}, {stackOf("00001", 6), false}, {stackOf("0", 6), false},
		// 64 colors, and more.
		{stackOf(deBruijns[6], 6), true}, {stackOf(deBruijns[6], 5), false}, {stackOf(deBruijns[6][1:], 6), true}, {stackOf(deBruijns[6]+"0", 6), false}, {stackOf(deBruijns[6]+"1", 6), false}, {stackOf(deBruijns[6]+deBruijns[6], 6), false},
		{impl.Stack{Colors: repeated(0, 5000), Window: 6}, false}, {impl.Stack{Colors: alternating(1, 5000), Window: 6}, false}, {impl.Stack{Colors: alternating(0, 64), Window: 6}, false},
		// A Window that is none.
		{stackOf("01", 0), false}, {stackOf("01", -1), false}, {stackOf("0000001", 7), false}, {stackOf(deBruijns[6], 7), false}, {stackOf(deBruijns[6], 64), false}, {stackOf(deBruijns[6], math.MaxInt64), false}, {stackOf(deBruijns[6], math.MinInt64), false},
		// A color that is none.
		{impl.Stack{Colors: []int{2}, Window: 1}, false}, {impl.Stack{Colors: []int{0, 2}, Window: 1}, false}, {impl.Stack{Colors: []int{-1, 0}, Window: 1}, false}, {impl.Stack{Colors: []int{0, 1, 2}, Window: 1}, false}, {impl.Stack{Colors: []int{0, 0, 1, 3}, Window: 2}, false},
	} {
		if got := impl.StackOk(c.s); got != c.want || got != stackOk(c.s) {
			t.Errorf("StackOk(%v) = %t", c.s, got)
		}
	}
}

func TestP9StackOkOfManyStacks(t *testing.T) {
	valid := 0
	for _, s := range shortStacks(9) {
		want := stackOk(s)
		if got := impl.StackOk(s); got != want {
			t.Errorf("StackOk(%v) = %t", s, got)
		}
		if want {
			valid++
		}
	}
	if valid < 1000 {
		t.Errorf("only %d of the short stacks are valid", valid)
	}
	for _, s := range validStacks() {
		if !impl.StackOk(s) {
			t.Errorf("StackOk(%v) is false", s)
		}
		// Another color anywhere in a stack with all windows makes two of them equal.
		for i := range s.Colors {
			other := cutBy(s, 0)
			other.Colors[i] = 1 - other.Colors[i]
			if got := impl.StackOk(other); got != stackOk(other) {
				t.Errorf("StackOk(%v) = %t", other, got)
			}
		}
	}
}

// wantNoStack checks the functions of a stack that is not valid.
func wantNoStack(t *testing.T, s impl.Stack) {
	t.Helper()
	if impl.StackOk(s) {
		t.Errorf("StackOk(%v) is true", s)
	}
	lists := append(colorLists(3), nil, []int{0}, []int{1}, []int{0, 0}, s.Colors)
	if s.Window >= 1 && s.Window <= 7 && len(s.Colors) > 0 {
		lists = append(lists, windowOf(s, 0), windowOf(s, len(s.Colors)-1))
	}
	for _, list := range lists {
		if got := impl.FindWindow(s, list); got != -1 {
			t.Errorf("FindWindow(%v, %v) = %d", s, list, got)
		}
	}
	for _, k := range []int{0, 1, 2, -1, len(s.Colors) - 1, len(s.Colors), math.MaxInt64, math.MinInt64} {
		window, ok := impl.WindowAt(s, k)
		wantPerm(t, fmt.Sprintf("the window of %v at %d", s, k), window, ok, nil)
		cut, ok := impl.CutStack(s, k)
		wantStack(t, fmt.Sprintf("%v cut by %d", s, k), cut, ok, nil, 0)
	}
}

func TestP9StacksThatAreNotValid(t *testing.T) {
	for _, s := range shortStacks(6) {
		if !stackOk(s) {
			wantNoStack(t, s)
		}
	}
	for _, s := range validStacks() {
		for _, window := range noWindows {
			wantNoStack(t, impl.Stack{Colors: s.Colors, Window: window})
		}
		if len(s.Colors) < 8 || len(s.Colors) > 60 {
			for i, x := range noColors {
				bad := cutBy(s, 0)
				bad.Colors[i%len(bad.Colors)] = x
				wantNoStack(t, bad)
			}
		}
		if len(s.Colors) == 1<<s.Window {
			wantNoStack(t, impl.Stack{Colors: append(slices.Clone(s.Colors), 0), Window: s.Window})
			wantNoStack(t, impl.Stack{Colors: append(slices.Clone(s.Colors), 1), Window: s.Window})
			wantNoStack(t, impl.Stack{Colors: slices.Repeat(s.Colors, 9), Window: s.Window})
		}
		for window := len(s.Colors) + 1; window <= 6; window++ {
			wantNoStack(t, impl.Stack{Colors: s.Colors, Window: window})
		}
	}
	wantNoStack(t, impl.Stack{Colors: repeated(0, 5000), Window: 6})
	wantNoStack(t, impl.Stack{Colors: repeated(1, 65), Window: 1})
	wantNoStack(t, impl.Stack{Colors: repeated(0, 5000), Window: 5000})
}

func TestP9WindowAtAndFindWindow(t *testing.T) {
	for _, c := range []struct {
		s    impl.Stack
		at   int
		want string
	}{
		{stackOf("0", 1), 0, "0"}, {stackOf("1", 1), 0, "1"}, {stackOf("10", 1), 1, "0"}, {stackOf("01", 1), 1, "1"}, {stackOf("01", 2), 0, "01"},
		{stackOf("00011101", 3), 0, "000"}, {stackOf("00011101", 3), 2, "011"}, {stackOf("00011101", 3), 5, "101"},
		// Around the end.
		{stackOf("01", 2), 1, "10"}, {stackOf("100", 2), 2, "01"}, {stackOf("100", 3), 1, "001"}, {stackOf("00011101", 3), 6, "010"}, {stackOf("00011101", 3), 7, "100"},
		{stackOf("001011", 6), 0, "001011"}, {stackOf("001011", 6), 4, "110010"}, {stackOf("001011", 6), 5, "100101"},
		{stackOf(deBruijns[6], 6), 0, "000000"}, {stackOf(deBruijns[6], 6), 58, "001001"}, {stackOf(deBruijns[6], 6), 59, "010010"}, {stackOf(deBruijns[6], 6), 63, "100000"},
	} {
		got, ok := impl.WindowAt(c.s, c.at)
		wantPerm(t, fmt.Sprintf("the window of %v at %d", c.s, c.at), got, ok, colorsOf(c.want))
		if at := impl.FindWindow(c.s, colorsOf(c.want)); at != c.at {
			t.Errorf("FindWindow(%v, %s) = %d", c.s, c.want, at)
		}
	}
	for _, s := range validStacks() {
		for _, at := range outsideOf(len(s.Colors)) {
			got, ok := impl.WindowAt(s, at)
			wantPerm(t, fmt.Sprintf("the window of %v at %d", s, at), got, ok, nil)
		}
	}
}

// positionOf returns the position at which a list begins in a stack as a window, or -1 if there is none.
func positionOf(s impl.Stack, list []int) int {
	for at := range s.Colors {
		if slices.Equal(windowOf(s, at), list) {
			return at
		}
	}
	return -1
}

func TestP9FindWindowOfAllLists(t *testing.T) {
	var lists [][]int
	for n := range 8 {
		lists = append(lists, colorLists(n)...)
	}
	for i, s := range validStacks() {
		for j, list := range lists {
			// The stacks are many, so that each takes only some of the lists, but all that have the length of a window.
			if len(list) != s.Window && (i+j)%5 != 0 {
				continue
			}
			if got := impl.FindWindow(s, list); got != positionOf(s, list) {
				t.Errorf("FindWindow(%v, %v) = %d", s, list, got)
			}
		}
	}
}

func TestP9FindWindowOfListsThatAreNone(t *testing.T) {
	for _, s := range validStacks() {
		for at := range s.Colors {
			window := windowOf(s, at)
			lists := [][]int{nil, {}, window[1:], window[:s.Window-1], append(slices.Clone(window), 0), append(slices.Clone(window), 1), append([]int{0}, window...), slices.Repeat(window, 12), slices.Concat(window, repeated(0, 5000))}
			for i, x := range noColors {
				list := slices.Clone(window)
				list[i%s.Window] = x
				lists = append(lists, list)
			}
			for _, list := range lists {
				if got := impl.FindWindow(s, list); got != -1 {
					t.Errorf("FindWindow(%v, %v) = %d", s, list, got)
				}
			}
		}
	}
}

func TestP9DeBruijn(t *testing.T) {
	for window := 1; window <= impl.MaxWindow; window++ {
		got, ok := impl.DeBruijn(window)
		wantStack(t, fmt.Sprintf("DeBruijn(%d)", window), got, ok, colorsOf(deBruijns[window]), window)
		wantStack(t, fmt.Sprintf("DeBruijn(%d)", window), got, ok, greedy(window), window)
	}
	for _, window := range noWindows {
		got, ok := impl.DeBruijn(window)
		wantStack(t, fmt.Sprintf("DeBruijn(%d)", window), got, ok, nil, 0)
	}
}

func TestP9ShiftStack(t *testing.T) {
	for _, c := range []struct {
		taps       []int
		seed, want string
	}{
		{[]int{1}, "1", "1"}, {[]int{2}, "01", "01"}, {[]int{2}, "10", "10"}, {[]int{1, 2}, "01", "011"}, {[]int{1, 2}, "11", "110"},
		{[]int{1, 3}, "001", "0011101"}, {[]int{2, 3}, "001", "0010111"}, {[]int{2, 3}, "110", "1100101"}, {[]int{3}, "001", "001"}, {[]int{3}, "110", "110"}, {[]int{1, 2, 3}, "001", "0011"},
		{[]int{1, 4}, "0001", "000111101011001"}, {[]int{3, 4}, "1000", "100010011010111"}, {[]int{2, 4}, "0001", "000101"}, {[]int{1, 2, 3, 4}, "0001", "00011"},
		{[]int{2, 5}, "00001", "0000101011101100011111001101001"}, {[]int{3, 5}, "10110", "1011001111100011011101010000100"}, {[]int{3, 6}, "000001", "000001001"},
		{[]int{1, 6}, "000001", "000001111110101011001101110110100100111000101111001010001100001"}, {[]int{5, 6}, "000001", "000001000011000101001111010001110010010110111011001101010111111"},
		{[]int{1, 2, 5, 6}, "100101", "100101010010011110000011011100110001110101111110110100010000101"},
		// The seed begins again before it has ended, so there are fewer colors.
		{[]int{2}, "11", "1"}, {[]int{3}, "111", "1"}, {[]int{1, 2, 3}, "010", "01"}, {[]int{4}, "0101", "01"}, {[]int{4}, "1010", "10"}, {[]int{6}, "001001", "001"}, {[]int{6}, "110110", "110"}, {[]int{6}, "111111", "1"}, {[]int{2, 4, 6}, "010001", "0100"},
	} {
		got, ok := impl.ShiftStack(c.taps, colorsOf(c.seed))
		wantStack(t, fmt.Sprintf("ShiftStack(%v, %s)", c.taps, c.seed), got, ok, colorsOf(c.want), len(c.seed))
		if valid := impl.StackOk(got); valid != (len(c.want) >= len(c.seed)) {
			t.Errorf("StackOk(%v) = %t", got, valid)
		}
	}
	for n := 1; n <= 6; n++ {
		for _, taps := range tapLists(n) {
			for _, seed := range colorLists(n)[1:] {
				got, ok := impl.ShiftStack(taps, seed)
				wantStack(t, fmt.Sprintf("ShiftStack(%v, %v)", taps, seed), got, ok, shifted(taps, seed), n)
			}
		}
	}
}

// noTaps returns lists that are no taps for n colors.
func noTaps(n int) [][]int {
	return [][]int{
		nil, {}, {0}, {-1}, {n - 1}, {n + 1}, {-n}, {0, n}, {-1, n}, {n, n}, {n, n + 1}, {n - 1, n - 1}, {1, 1, n}, {n, 1}, {n, 0}, {n, 1, n}, {math.MinInt64, n}, {n, math.MaxInt64}, {math.MaxInt64, n}, {math.MaxInt64}, {math.MinInt64},
		{1<<32 + n}, {-1<<32 + n}, descending(n, 0, 1), append(ascending(1, n, 1), n, n), append(ascending(1, n+1, 1), n+1), ascending(0, n+1, 1), ascending(1, n, 1), repeated(n, 5000), ascending(1, 5000, 1),
	}
}

func TestP9ShiftStackFails(t *testing.T) {
	wantNone := func(taps []int, seed []int) {
		t.Helper()
		got, ok := impl.ShiftStack(taps, seed)
		wantStack(t, fmt.Sprintf("ShiftStack(%v, %v)", taps, seed), got, ok, nil, 0)
	}
	for n := 1; n <= 6; n++ {
		for _, seed := range colorLists(n) {
			for _, taps := range noTaps(n) {
				wantNone(taps, seed)
			}
		}
		for _, taps := range tapLists(n) {
			wantNone(taps, repeated(0, n))
			wantNone(taps, nil)
			for i := range n {
				for _, x := range noColors {
					for _, color := range []int{0, 1} {
						seed := repeated(color, n)
						seed[i] = x
						wantNone(taps, seed)
					}
				}
			}
			// Seeds that have not the length that the last of the taps says.
			for other := range 10 {
				if other != n {
					wantNone(taps, repeated(1, other))
				}
			}
		}
	}
	for _, n := range []int{7, 8, 12, 63, 64, 65, 200, 5000} {
		wantNone([]int{n}, repeated(1, n))
		wantNone([]int{1, n}, append(repeated(0, n-1), 1))
		wantNone([]int{6}, repeated(1, n))
		wantNone(nil, repeated(1, n))
	}
	wantNone(nil, nil)
	wantNone([]int{0}, nil)
	wantNone([]int{0}, []int{})
	wantNone([]int{1}, []int{})
}

func TestP9ShiftStackOfManyTaps(t *testing.T) {
	for _, taps := range listsOver([]int{-1, 0, 1, 2, 3, 4}, 4) {
		for n := range 5 {
			ascends := true
			for i, tap := range taps {
				ascends = ascends && tap >= 1 && tap <= n && (i == 0 || taps[i-1] < tap)
			}
			for _, seed := range colorLists(n) {
				var want []int
				if ascends && len(taps) > 0 && taps[len(taps)-1] == n && slices.Contains(seed, 1) {
					want = shifted(taps, seed)
				}
				got, ok := impl.ShiftStack(taps, seed)
				wantStack(t, fmt.Sprintf("ShiftStack(%v, %v)", taps, seed), got, ok, want, n)
			}
		}
	}
}

func TestP9IsMaximal(t *testing.T) {
	for n := 1; n <= 6; n++ {
		for _, taps := range tapLists(n) {
			want := slices.ContainsFunc(maximalTaps[n], func(maximal []int) bool { return slices.Equal(maximal, taps) })
			if got := impl.IsMaximal(taps, n); got != want {
				t.Errorf("IsMaximal(%v, %d) = %t", taps, n, got)
			}
			for _, other := range append([]int{n - 1, n + 1}, noWindows...) {
				if impl.IsMaximal(taps, other) {
					t.Errorf("IsMaximal(%v, %d) is true", taps, other)
				}
			}
		}
		for _, taps := range noTaps(n) {
			if impl.IsMaximal(taps, n) {
				t.Errorf("IsMaximal(%v, %d) is true", taps, n)
			}
		}
	}
	for _, n := range noWindows {
		// With no colors, there would be 2 to the power of 0, minus 1, of them; these taps would be maximal for 7 colors.
		for _, taps := range [][]int{nil, {}, {0}, {n}, {1, n}, {1}, {1, 7}, {6, 7}} {
			if impl.IsMaximal(taps, n) {
				t.Errorf("IsMaximal(%v, %d) is true", taps, n)
			}
		}
	}
}

func TestP9CutStack(t *testing.T) {
	for _, c := range []struct {
		s    impl.Stack
		k    int
		want string
	}{
		{stackOf("0", 1), 0, "0"}, {stackOf("1", 1), 0, "1"}, {stackOf("01", 1), 0, "01"}, {stackOf("01", 1), 1, "10"}, {stackOf("01", 2), 1, "10"}, {stackOf("100", 2), 0, "100"}, {stackOf("100", 2), 1, "001"}, {stackOf("100", 2), 2, "010"},
		{stackOf("00011101", 3), 0, "00011101"}, {stackOf("00011101", 3), 2, "01110100"}, {stackOf("00011101", 3), 7, "10001110"}, {stackOf("001011", 6), 5, "100101"},
		{stackOf(deBruijns[6], 6), 0, deBruijns[6]}, {stackOf(deBruijns[6], 6), 6, deBruijns[6][6:] + "000000"}, {stackOf(deBruijns[6], 6), 63, "1" + deBruijns[6][:63]},
	} {
		got, ok := impl.CutStack(c.s, c.k)
		wantStack(t, fmt.Sprintf("%v cut by %d", c.s, c.k), got, ok, colorsOf(c.want), c.s.Window)
	}
	for _, s := range validStacks() {
		for k := range s.Colors {
			got, ok := impl.CutStack(s, k)
			wantStack(t, fmt.Sprintf("%v cut by %d", s, k), got, ok, cutBy(s, k).Colors, s.Window)
		}
		for _, k := range outsideOf(len(s.Colors)) {
			got, ok := impl.CutStack(s, k)
			wantStack(t, fmt.Sprintf("%v cut by %d", s, k), got, ok, nil, 0)
		}
	}
}

func TestP9StacksAreNew(t *testing.T) {
	for i := range 3 {
		for window := 1; window <= 6; window++ {
			s, ok := impl.DeBruijn(window)
			wantStack(t, fmt.Sprintf("DeBruijn(%d) at call %d", window, i), s, ok, colorsOf(deBruijns[window]), window)
			results := [][]int{s.Colors}
			for at := range s.Colors {
				found, ok := impl.WindowAt(s, at)
				wantPerm(t, fmt.Sprintf("the window of %v at %d", s, at), found, ok, windowOf(s, at))
				cut, fine := impl.CutStack(s, at)
				wantStack(t, fmt.Sprintf("%v cut by %d", s, at), cut, fine, cutBy(s, at).Colors, window)
				results = append(results, found, cut.Colors)
			}
			for _, taps := range tapLists(window) {
				for _, seed := range colorLists(window)[1:] {
					shift, ok := impl.ShiftStack(taps, seed)
					wantStack(t, fmt.Sprintf("ShiftStack(%v, %v) at call %d", taps, seed, i), shift, ok, shifted(taps, seed), window)
					results = append(results, shift.Colors, seed)
				}
				results = append(results, taps)
			}
			spoil(t, "stacks", results)
		}
	}
}

func TestP9StacksDoNotChangeTheirArguments(t *testing.T) {
	stacks := append(shortStacks(6), validStacks()...)
	stacks = append(stacks, impl.Stack{Colors: []int{0, 2}, Window: 1}, stackOf("0000001", 7), stackOf("01", 0))
	for _, from := range stacks {
		n := len(from.Colors)
		behind := append(slices.Clone(from.Colors), 97, 98, 99)
		before := slices.Clone(behind)
		s := impl.Stack{Colors: behind[:n], Window: from.Window}
		impl.StackOk(s)
		for k := -1; k <= n; k++ {
			impl.WindowAt(s, k)
			impl.CutStack(s, k)
		}
		for size := range n + 2 {
			impl.FindWindow(s, behind[:size])
		}
		if !slices.Equal(behind, before) {
			t.Fatalf("%v has become %v", before, behind)
		}
	}
	for n := range 8 {
		for _, list := range append(tapLists(max(n, 1)), nil, []int{n, n}, []int{3, 2, 1}) {
			for _, colors := range colorLists(n) {
				taps, seed := append(slices.Clone(list), 97, 98, 99), append(slices.Clone(colors), 97, 98, 99)
				tapsBefore, seedBefore := slices.Clone(taps), slices.Clone(seed)
				impl.ShiftStack(taps[:len(list)], seed[:n])
				impl.IsMaximal(taps[:len(list)], n)
				if !slices.Equal(taps, tapsBefore) || !slices.Equal(seed, seedBefore) {
					t.Fatalf("%v and %v have become %v and %v", tapsBefore, seedBefore, taps, seed)
				}
			}
		}
	}
}

func TestP9StacksAtTheSameTime(t *testing.T) {
	var group sync.WaitGroup
	for worker := range 8 {
		group.Go(func() {
			for i := range 120 {
				window := (worker+i)%6 + 1
				s, ok := impl.DeBruijn(window)
				wantStack(t, fmt.Sprintf("DeBruijn(%d)", window), s, ok, colorsOf(deBruijns[window]), window)
				if at := i % len(s.Colors); impl.FindWindow(s, windowOf(s, at)) != at {
					t.Errorf("the window of %v at %d is found at %d", s, at, impl.FindWindow(s, windowOf(s, at)))
				}
				taps := maximalTaps[window][i%len(maximalTaps[window])]
				if !impl.IsMaximal(taps, window) {
					t.Errorf("IsMaximal(%v, %d) is false", taps, window)
				}
			}
		})
	}
	group.Wait()
}
