package tests

import (
	"fmt"
	"math"
	"slices"
	"sync"
	"testing"

	"loop.example/g00846/impl"
)

// moveStep, choiceStep and noteStep are the steps of the three kinds.
func moveStep(kind int, k int) impl.Step {
	return impl.Step{Kind: impl.StMove, Move: impl.Move{Kind: kind, K: k}}
}

func choiceStep(kind int) impl.Step { return impl.Step{Kind: impl.StChoice, A: kind} }

func noteStep(at int) impl.Step { return impl.Step{Kind: impl.StNote, A: at} }

// stepOk decides whether a step is valid for n cards.
func stepOk(n int, s impl.Step) bool {
	still := s.Move.Kind == 0 && s.Move.K == 0
	switch {
	case n < 1 || n > 12:
		return false
	case s.Kind == 1:
		return s.A == 0 && s.Move.K >= 0 && s.Move.K <= mostOf(s.Move.Kind, n)
	case s.Kind == 2 && s.A == 3:
		return still && n >= 2
	case s.Kind == 2 && s.A == 2:
		return still && n <= 7
	case s.Kind == 2:
		return still && s.A >= 0 && s.A <= 4
	case s.Kind == 3:
		return still && s.A >= 0 && s.A < n
	}
	return false
}

// stepsOf returns all steps that are valid for n cards.
func stepsOf(n int) []impl.Step {
	var steps []impl.Step
	for _, m := range movesOf(n) {
		steps = append(steps, impl.Step{Kind: 1, Move: m})
	}
	for a := range 13 {
		steps = append(steps, choiceStep(a), noteStep(a))
	}
	return slices.DeleteFunc(steps, func(s impl.Step) bool { return !stepOk(n, s) })
}

// scenesAfter returns the scenes that follow by a valid step.
func scenesAfter(c impl.Scene, s impl.Step) []impl.Scene {
	switch s.Kind {
	case 1:
		return []impl.Scene{{Packet: moved(c.Packet, s.Move), Noted: c.Noted}}
	case 3:
		return []impl.Scene{{Packet: c.Packet, Noted: cardAt(c.Packet, s.A)}}
	}
	var scenes []impl.Scene
	for _, p := range chosen(c.Packet, s.A) {
		scenes = append(scenes, impl.Scene{Packet: p, Noted: c.Noted})
	}
	return scenes
}

// run is a way in which a trick can go.
type run struct {
	picks []int
	end   impl.Scene
}

// runsOf returns all ways in which a valid trick can go, in lexicographic order of the picks.
func runsOf(k impl.Trick) []run {
	runs := []run{{nil, impl.Scene{Packet: k.Start, Noted: -1}}}
	for _, s := range k.Steps {
		var longer []run
		for _, r := range runs {
			for i, c := range scenesAfter(r.end, s) {
				picks := r.picks
				if s.Kind == 2 {
					picks = append(slices.Clone(picks), i)
				}
				longer = append(longer, run{picks, c})
			}
		}
		runs = longer
	}
	return runs
}

// withClaim returns the trick with another claim.
func withClaim(k impl.Trick, claim int, a int, b int) impl.Trick {
	return impl.Trick{Start: k.Start, Steps: k.Steps, Claim: claim, A: a, B: b}
}

// stepsOfKind returns the number of steps of a kind.
func stepsOfKind(k impl.Trick, kind int) int {
	return len(slices.DeleteFunc(slices.Clone(k.Steps), func(s impl.Step) bool { return s.Kind != kind }))
}

// claimsOf returns the trick with each claim that is valid for it.
func claimsOf(k impl.Trick) []impl.Trick {
	n := len(k.Start)
	claimed := []impl.Trick{withClaim(k, 0, 0, 0), withClaim(k, 4, 0, 0)}
	for a := range n {
		if stepsOfKind(k, 3) > 0 {
			claimed = append(claimed, withClaim(k, 1, a, 0))
		}
		for b := range n {
			claimed = append(claimed, withClaim(k, 3, cardAt(k.Start, a), b))
		}
	}
	for a := range n + 1 {
		claimed = append(claimed, withClaim(k, 2, a, 0))
	}
	return claimed
}

// holds decides whether the claim of a valid trick holds for a scene.
func holds(k impl.Trick, c impl.Scene) bool {
	if !hasCards(c.Packet, k.Start) {
		return false
	}
	up := 0
	for _, x := range c.Packet {
		if x < 0 {
			up++
		}
	}
	return []bool{true, cardAt(c.Packet, k.A) == c.Noted, up == k.A, cardAt(c.Packet, k.B) == k.A, slices.Equal(c.Packet, k.Start)}[k.Claim]
}

// mixedSteps returns steps without a simple rule, but the same ones at each call. At most most of them are choices, since there
// would be too many ways in which a trick can go.
func mixedSteps(n int, count int, most int, seed int) []impl.Step {
	state := uint32(seed)
	below := func(m int) int {
		state = state*1664525 + 1013904223
		return int(state>>12) % m
	}
	all := stepsOf(n)
	moves := len(movesOf(n))
	var steps []impl.Step
	for len(steps) < count {
		from, to := 0, moves
		if below(2) == 1 {
			from, to = moves, len(all)
		}
		s := all[from+below(to-from)]
		if s.Kind == 2 {
			if most == 0 {
				continue
			}
			most--
		}
		steps = append(steps, s)
	}
	return steps
}

// validTricks are tricks of all numbers of cards and of steps, with each kind of steps and claims.
func validTricks() []impl.Trick {
	tricks := []impl.Trick{
		{Start: []int{0}}, {Start: []int{-12}, Claim: impl.ClCard, A: 11}, {Start: downElements}, {Start: upElements, Claim: impl.ClCount, A: 12},
		{Start: downElements, Steps: []impl.Step{choiceStep(impl.ChCut), noteStep(0), choiceStep(impl.ChCut)}, Claim: impl.ClNoted, A: 11},
		{Start: []int{0, 1, 2, 3, 4, 5, 6}, Steps: []impl.Step{choiceStep(impl.ChRiffle)}, Claim: impl.ClOrder},
		{Start: []int{0, 1, 2, 3}, Steps: []impl.Step{choiceStep(impl.ChPair), choiceStep(impl.ChPair), choiceStep(impl.ChPair), choiceStep(impl.ChPair)}, Claim: impl.ClCount, A: 2},
		{Start: []int{0, 1}, Steps: slices.Repeat([]impl.Step{choiceStep(impl.ChCut)}, 10)},
		{Start: []int{3}, Steps: slices.Repeat([]impl.Step{choiceStep(impl.ChNone), choiceStep(impl.ChCut), choiceStep(impl.ChRiffle), choiceStep(impl.ChPick)}, 3), Claim: impl.ClCard, A: 3},
	}
	for n := 1; n <= 12; n++ {
		most := []int{5: 2, 6: 2, 7: 1, 12: 1}
		choices := 1
		if n < len(most) && most[n] > 0 {
			choices = most[n]
		} else if n < 5 {
			choices = 3
		}
		for i := range 8 {
			k := impl.Trick{Start: movePackets(n)[(n+i)%7], Steps: mixedSteps(n, (n+5*i)%13, choices, 31*n+i)}
			claimed := claimsOf(k)
			tricks = append(tricks, claimed[(7*i+3*n)%len(claimed)])
		}
	}
	return tricks
}

func sameScene(a impl.Scene, b impl.Scene) bool {
	return slices.Equal(a.Packet, b.Packet) && a.Noted == b.Noted
}

// wantScene checks the two results of a function that gives a scene; if ok is false, there is none.
func wantScene(t *testing.T, of string, got impl.Scene, ok bool, want impl.Scene, wantOk bool) {
	t.Helper()
	if ok != wantOk || !sameScene(got, want) {
		t.Errorf("%s is %v, %t; want %v, %t", of, got, ok, want, wantOk)
	}
}

// wantScenes checks NextScenes.
func wantScenes(t *testing.T, c impl.Scene, s impl.Step, want []impl.Scene) {
	t.Helper()
	if got := impl.NextScenes(c, s); !slices.EqualFunc(got, want, sameScene) {
		t.Errorf("after %v by %v come %v, want %v", c, s, got, want)
	}
}

// wantRun checks RunTrick for picks that lead to a scene.
func wantRun(t *testing.T, k impl.Trick, r run) {
	t.Helper()
	got, ok := impl.RunTrick(k, r.picks)
	wantScene(t, fmt.Sprintf("the end of %v by %v", k, r.picks), got, ok, r.end, true)
}

// wantNoRun checks RunTrick for picks with which it fails.
func wantNoRun(t *testing.T, k impl.Trick, picks []int) {
	t.Helper()
	got, ok := impl.RunTrick(k, picks)
	wantScene(t, fmt.Sprintf("the end of %v by %v", k, picks), got, ok, impl.Scene{}, false)
}

// wantNoTrick checks that each of the functions fails for a trick that is not valid.
func wantNoTrick(t *testing.T, k impl.Trick) {
	t.Helper()
	of := fmt.Sprint(k)
	if len(of) > 300 {
		of = of[:300] + ".."
	}
	if impl.TrickOk(k) || impl.CountChoices(k) != -1 {
		t.Errorf("TrickOk(%s) is %t, CountChoices %d", of, impl.TrickOk(k), impl.CountChoices(k))
	}
	got, ok := impl.StartScene(k)
	wantScene(t, "the beginning of "+of, got, ok, impl.Scene{}, false)
	for picks := range 4 {
		got, ok := impl.RunTrick(k, make([]int, picks))
		wantScene(t, "the end of "+of, got, ok, impl.Scene{}, false)
	}
	for _, noted := range []int{-1, 0, 1} {
		for _, p := range [][]int{k.Start, {0, 1, 2}, nil} {
			if impl.ClaimHolds(k, impl.Scene{Packet: p, Noted: noted}) {
				t.Errorf("the claim of %s holds for %v", of, p)
			}
		}
	}
}

func TestP8OneSceneAfterAMoveOrANoteAndEachResultOfAChoice(t *testing.T) {
	for _, k := range validTricks() {
		c, ok := impl.StartScene(k)
		wantScene(t, fmt.Sprintf("the beginning of %v", k), c, ok, impl.Scene{Packet: k.Start, Noted: -1}, true)
		for i, s := range k.Steps {
			next := impl.NextScenes(c, s)
			results := [][]int{c.Packet}
			noted := c.Noted
			switch s.Kind {
			case impl.StMove:
				results[0], _ = impl.Perform(c.Packet, s.Move)
			case impl.StChoice:
				results, _ = impl.ResultsOf(c.Packet, s.A)
			case impl.StNote:
				noted = impl.CardOf(c.Packet[s.A])
			}
			var want []impl.Scene
			for _, p := range results {
				want = append(want, impl.Scene{Packet: p, Noted: noted})
			}
			if len(next) == 0 || s.Kind != impl.StChoice && len(next) != 1 || !slices.EqualFunc(next, want, sameScene) {
				t.Fatalf("after %v by %v come %v, want %v", c, s, next, want)
			}
			c = next[(5*i+3)%len(next)]
		}
	}
}

func TestP8RunsFollowTheScenes(t *testing.T) {
	for _, k := range validTricks() {
		for _, r := range runsOf(k) {
			wantRun(t, k, r)
			c, _ := impl.StartScene(k)
			picks := r.picks
			for _, s := range k.Steps {
				next := impl.NextScenes(c, s)
				if s.Kind == impl.StChoice {
					c, picks = next[picks[0]], picks[1:]
				} else {
					c = next[0]
				}
			}
			if !sameScene(c, r.end) {
				t.Errorf("step by step, %v ends by %v in %v, want %v", k, r.picks, c, r.end)
			}
		}
	}
}

func TestP8RunsFailForOtherPicks(t *testing.T) {
	for _, k := range validTricks() {
		runs := runsOf(k)
		last := runs[len(runs)-1].picks
		for i := 0; i < len(runs); i += 1 + len(runs)/40 {
			picks := runs[i].picks
			wantNoRun(t, k, append(slices.Clone(picks), 0))
			wantNoRun(t, k, append([]int{0}, picks...))
			wantNoRun(t, k, append(slices.Clone(picks), make([]int, 5000)...))
			for at := range picks {
				wantNoRun(t, k, picks[:at])
				for _, far := range outsideOf(len(runs)) {
					wantNoRun(t, k, slices.Replace(slices.Clone(picks), at, at+1, far))
				}
			}
		}
		// The first of the indices that do not exist, for the first choice.
		if len(last) > 0 {
			wantNoRun(t, k, slices.Replace(slices.Clone(last), 0, 1, last[0]+1))
		}
	}
}

// After each beginning of the picks, exactly the indices of the results of the next choice exist.
func TestP8PicksAreTheIndicesOfTheResults(t *testing.T) {
	for _, k := range validTricks() {
		choices := stepsOfKind(k, impl.StChoice)
		runs := runsOf(k)
		ends := map[string]impl.Scene{}
		greatest := 0
		for _, r := range runs {
			ends[fmt.Sprint(r.picks)] = r.end
			greatest = max(greatest, slices.Max(append(r.picks, 0)))
		}
		if choices > 2 && greatest > 4 {
			continue
		}
		for _, picks := range listsOver(ascending(-1, greatest+2, 1), min(choices, 4)) {
			// Those that are too long for all lists end with picks that exist.
			picks = append(slices.Clone(picks), make([]int, max(choices-4, 0))...)
			got, ok := impl.RunTrick(k, picks)
			want, found := ends[fmt.Sprint(picks)]
			wantScene(t, fmt.Sprintf("the end of %v by %v", k, picks), got, ok, want, found)
		}
	}
}

func TestP8EachSceneHasTheCardsOfStart(t *testing.T) {
	for _, k := range validTricks() {
		start, _ := impl.StartScene(k)
		scenes := []impl.Scene{start}
		for _, s := range k.Steps {
			var after []impl.Scene
			for _, c := range scenes {
				for _, next := range impl.NextScenes(c, s) {
					if !impl.IsArrangement(next.Packet, k.Start) || !impl.IsArrangement(k.Start, next.Packet) || next.Noted < -1 || next.Noted >= 0 && impl.PositionOf(k.Start, next.Noted) < 0 {
						t.Fatalf("after %v by %v comes %v, but %v begins with %v", c, s, next, k, k.Start)
					}
					after = append(after, next)
				}
			}
			scenes = after
		}
		if len(scenes) != len(runsOf(k)) {
			t.Errorf("%v ends in %d scenes, want %d", k, len(scenes), len(runsOf(k)))
		}
	}
}

func TestP8CountChoicesIsTheNumberOfPicks(t *testing.T) {
	for _, k := range validTricks() {
		choices := impl.CountChoices(k)
		if want := stepsOfKind(k, 2); choices != want {
			t.Errorf("CountChoices(%v) = %d, want %d", k, choices, want)
		}
		for count := range 15 {
			// The first result of each choice always exists.
			if _, ok := impl.RunTrick(k, make([]int, count)); ok != (count == choices) {
				t.Errorf("with %d picks, a run of %v is %t", count, k, ok)
			}
		}
	}
}

func TestP8ClaimsHoldForTheEndsForWhichTheyShould(t *testing.T) {
	held := [5]map[bool]bool{{}, {}, {}, {}, {}}
	for _, from := range validTricks() {
		runs := runsOf(from)
		for _, k := range claimsOf(from) {
			if !impl.TrickOk(k) {
				t.Fatalf("%v is not valid", k)
			}
			for i := 0; i < len(runs); i += 1 + len(runs)/15 {
				c, _ := impl.RunTrick(k, runs[i].picks)
				got, want := impl.ClaimHolds(k, c), holds(k, runs[i].end)
				if got != want {
					t.Errorf("for %v, the claim of %v is %t", c, k, got)
				}
				held[k.Claim][want] = true
			}
		}
	}
	for claim, both := range held {
		if !both[true] || both[false] != (claim != impl.ClNone) {
			t.Errorf("of the claim %d, all tests have the same end", claim)
		}
	}
}

// wantPicks checks for which picks the claim of a trick holds, of all with which it can be run.
func wantPicks(t *testing.T, k impl.Trick, want func(picks []int) bool) {
	t.Helper()
	runs := runsOf(k)
	if !impl.TrickOk(k) {
		t.Fatalf("%v is not valid", k)
	}
	for _, r := range runs {
		c, ok := impl.RunTrick(k, r.picks)
		if holds := impl.ClaimHolds(k, c); !ok || holds != want(r.picks) {
			t.Errorf("by %v, %v ends in %v, %t, for which its claim is %t", r.picks, k, c, ok, holds)
		}
	}
}

func TestP8TricksThatWorkForAllChoices(t *testing.T) {
	always := func([]int) bool { return true }
	for n := 2; n <= 12; n++ {
		for _, k := range []impl.Trick{
			// A card is picked and noted, and goes to the end.
			{Steps: []impl.Step{choiceStep(impl.ChPick), noteStep(0), moveStep(impl.MvCut, 1)}, Claim: impl.ClNoted, A: n - 1},
			// A card is noted after a cut and is followed through moves.
			{Steps: []impl.Step{choiceStep(impl.ChCut), noteStep(n - 1), moveStep(impl.MvFlip, n), moveStep(impl.MvTurn, 0)}, Claim: impl.ClNoted},
			// Each pick keeps the number of cards that lie face up.
			{Steps: []impl.Step{choiceStep(impl.ChPick), choiceStep(impl.ChCut), moveStep(impl.MvDeal, n)}, Claim: impl.ClCount},
			// What is chosen is noted first, and then another card, which is found.
			{Steps: []impl.Step{choiceStep(impl.ChPick), noteStep(0), noteStep(1), moveStep(impl.MvUnder, 0)}, Claim: impl.ClNoted},
			// One choice has one result only.
			{Steps: []impl.Step{choiceStep(impl.ChNone), moveStep(impl.MvFlip, n), moveStep(impl.MvFlip, n)}, Claim: impl.ClOrder},
			{Steps: []impl.Step{choiceStep(impl.ChPick), choiceStep(impl.ChNone)}, Claim: impl.ClNone},
			{Steps: []impl.Step{moveStep(impl.MvCut, n-1)}, Claim: impl.ClCard, A: n - 1},
		} {
			k.Start = order(n)
			wantPicks(t, k, always)
		}
	}
}

// After any number of pairs are turned over, of an even number of cards that all lay face down, a turn of every second card
// leaves half of them face up.
func TestP8TurnedPairsWorkForAllChoices(t *testing.T) {
	for _, c := range []struct{ n, pairs int }{{2, 8}, {4, 4}, {4, 5}, {6, 3}, {8, 3}, {10, 3}, {12, 3}} {
		k := impl.Trick{Start: order(c.n), Steps: slices.Repeat([]impl.Step{choiceStep(impl.ChPair)}, c.pairs), Claim: impl.ClCount, A: c.n / 2}
		for at := 0; at < c.n; at += 2 {
			k.Steps = append(k.Steps, moveStep(impl.MvTurn, at))
		}
		wantPicks(t, k, func([]int) bool { return true })
		k.A++
		wantPicks(t, k, func([]int) bool { return false })
	}
}

func TestP8TricksThatFailForSomeChoices(t *testing.T) {
	three := []int{0, 1, 2}
	for _, c := range []struct {
		steps       []impl.Step
		claim, a, b int
		want        func(picks []int) bool
	}{
		// The results of a cut begin with 0, 1 and 2, in this order.
		{[]impl.Step{choiceStep(impl.ChCut)}, impl.ClCard, 1, 0, func(picks []int) bool { return picks[0] == 1 }},
		{[]impl.Step{choiceStep(impl.ChCut)}, impl.ClCard, 0, 2, func(picks []int) bool { return picks[0] == 1 }},
		{[]impl.Step{choiceStep(impl.ChCut)}, impl.ClOrder, 0, 0, func(picks []int) bool { return picks[0] == 0 }},
		{[]impl.Step{choiceStep(impl.ChCut), choiceStep(impl.ChCut)}, impl.ClOrder, 0, 0, func(picks []int) bool { return picks[1] == 0 }},
		// Of the results of a second pick, the cards that come first are in the order of their numbers.
		{[]impl.Step{choiceStep(impl.ChPick), noteStep(0), choiceStep(impl.ChPick)}, impl.ClNoted, 0, 0, func(picks []int) bool { return picks[0] == picks[1] }},
		{[]impl.Step{choiceStep(impl.ChPick), noteStep(0), choiceStep(impl.ChPick)}, impl.ClNoted, 1, 0, func(picks []int) bool { return picks[0] != picks[1] }},
		{[]impl.Step{noteStep(0), choiceStep(impl.ChCut)}, impl.ClNoted, 0, 0, func(picks []int) bool { return picks[0] == 0 }},
		// The results of pairs turned over are -2, -1, 2; -1, 2, -2; and 2, -2, -1.
		{[]impl.Step{choiceStep(impl.ChPair), moveStep(impl.MvTurn, 0)}, impl.ClCount, 3, 0, func(picks []int) bool { return picks[0] == 2 }},
		{[]impl.Step{choiceStep(impl.ChPair), moveStep(impl.MvTurn, 0)}, impl.ClCount, 1, 0, func(picks []int) bool { return picks[0] != 2 }},
		{[]impl.Step{choiceStep(impl.ChPair), moveStep(impl.MvTurn, 0)}, impl.ClCount, 0, 0, func(picks []int) bool { return false }},
		{[]impl.Step{choiceStep(impl.ChPair)}, impl.ClOrder, 0, 0, func(picks []int) bool { return false }},
		// Of the five results of a riffle, the first one is the order itself, and only the first two have the top card still on top.
		{[]impl.Step{choiceStep(impl.ChRiffle)}, impl.ClOrder, 0, 0, func(picks []int) bool { return picks[0] == 0 }},
		{[]impl.Step{choiceStep(impl.ChRiffle)}, impl.ClCard, 0, 0, func(picks []int) bool { return picks[0] < 2 }},
	} {
		wantPicks(t, impl.Trick{Start: three, Steps: c.steps, Claim: c.claim, A: c.a, B: c.b}, c.want)
	}
}

func TestP9StepOk(t *testing.T) {
	for _, c := range []struct {
		n    int
		s    impl.Step
		want bool
	}{
		// The choices that are not for all numbers of cards.
		{1, choiceStep(impl.ChPair), false}, {2, choiceStep(impl.ChPair), true}, {12, choiceStep(impl.ChPair), true}, {7, choiceStep(impl.ChRiffle), true}, {8, choiceStep(impl.ChRiffle), false}, {12, choiceStep(impl.ChRiffle), false}, {1, choiceStep(impl.ChRiffle), true},
		{1, choiceStep(impl.ChNone), true}, {12, choiceStep(impl.ChNone), true}, {1, choiceStep(impl.ChCut), true}, {12, choiceStep(impl.ChCut), true}, {1, choiceStep(impl.ChPick), true}, {12, choiceStep(impl.ChPick), true}, {3, choiceStep(5), false}, {3, choiceStep(-1), false},
		{0, choiceStep(impl.ChNone), false}, {13, choiceStep(impl.ChNone), false}, {-1, choiceStep(impl.ChCut), false}, {0, choiceStep(impl.ChRiffle), false}, {-5, choiceStep(impl.ChRiffle), false}, {13, choiceStep(impl.ChPair), false},
		// A note at the first and at the last index.
		{1, noteStep(0), true}, {1, noteStep(1), false}, {3, noteStep(2), true}, {3, noteStep(3), false}, {3, noteStep(-1), false}, {12, noteStep(11), true}, {12, noteStep(12), false}, {13, noteStep(0), false}, {13, noteStep(12), false}, {0, noteStep(0), false}, {-1, noteStep(-1), false},
		{1, moveStep(impl.MvCut, 1), true}, {1, moveStep(impl.MvCut, 2), false}, {12, moveStep(impl.MvTurn, 11), true}, {12, moveStep(impl.MvTurn, 12), false}, {5, moveStep(impl.MvMilk, 0), true}, {5, moveStep(impl.MvMilk, 1), false}, {0, moveStep(impl.MvCut, 0), false}, {13, moveStep(impl.MvCut, 0), false}, {3, moveStep(0, 0), false}, {3, moveStep(10, 0), false}, {3, moveStep(impl.MvCut, -1), false},
		// A number that must be 0, and a move that must be the zero value.
		{3, impl.Step{Kind: impl.StMove, Move: impl.Move{Kind: impl.MvCut, K: 1}, A: 1}, false}, {3, impl.Step{Kind: impl.StMove, Move: impl.Move{Kind: impl.MvCut, K: 1}, A: -1}, false}, {3, impl.Step{Kind: impl.StMove}, false},
		{3, impl.Step{Kind: impl.StChoice, Move: impl.Move{Kind: impl.MvCut}}, false}, {3, impl.Step{Kind: impl.StChoice, Move: impl.Move{K: 1}}, false}, {3, impl.Step{Kind: impl.StChoice, Move: impl.Move{Kind: impl.MvCut, K: 1}, A: 1}, false},
		{3, impl.Step{Kind: impl.StNote, Move: impl.Move{Kind: impl.MvCut}}, false}, {3, impl.Step{Kind: impl.StNote, Move: impl.Move{K: 1}}, false}, {3, impl.Step{Kind: impl.StNote, Move: impl.Move{Kind: -1, K: -1}, A: 2}, false},
		// A kind that does not exist.
		{3, impl.Step{}, false}, {3, impl.Step{Kind: 4}, false}, {3, impl.Step{Kind: -1}, false}, {3, impl.Step{Kind: 0, Move: impl.Move{Kind: impl.MvCut}}, false}, {3, impl.Step{Kind: 4, Move: impl.Move{Kind: impl.MvCut}}, false},
	} {
		if got := impl.StepOk(c.n, c.s); got != c.want {
			t.Errorf("StepOk(%d, %v) = %t", c.n, c.s, got)
		}
	}
	for n := -2; n <= 15; n++ {
		for kind := -1; kind <= 5; kind++ {
			for moves := -1; moves <= 11; moves++ {
				for k := -1; k <= 14; k++ {
					for a := -2; a <= 14; a++ {
						s := impl.Step{Kind: kind, Move: impl.Move{Kind: moves, K: k}, A: a}
						if got, want := impl.StepOk(n, s), stepOk(n, s); got != want {
							t.Errorf("StepOk(%d, %v) = %t", n, s, got)
						}
					}
				}
			}
		}
	}
}

func TestP9StepOkOfFarNumbers(t *testing.T) {
	for _, far := range append(outsideOf(16), farNumbers...) {
		for n := 1; n <= 12; n++ {
			for _, s := range stepsOf(n) {
				if !impl.StepOk(n, s) {
					t.Errorf("StepOk(%d, %v) is false", n, s)
				}
				spoilt := []impl.Step{s, s, s, s}
				spoilt[0].Kind = far
				spoilt[1].Move.Kind = far
				spoilt[2].Move.K = far
				spoilt[3].A = far
				for _, s := range spoilt {
					if stepOk(n, s) != impl.StepOk(n, s) {
						t.Errorf("StepOk(%d, %v) = %t", n, s, impl.StepOk(n, s))
					}
				}
				if impl.StepOk(far, s) != stepOk(far, s) {
					t.Errorf("StepOk(%d, %v) = %t", far, s, impl.StepOk(far, s))
				}
			}
		}
	}
}

func TestP9TrickOk(t *testing.T) {
	three := []int{5, -8, 6}
	note := []impl.Step{noteStep(1)}
	for _, c := range []struct {
		k    impl.Trick
		want bool
	}{
		{impl.Trick{Start: three}, true}, {impl.Trick{Start: []int{-12}}, true}, {impl.Trick{Start: downElements}, true}, {impl.Trick{Start: upElements, Claim: impl.ClOrder}, true}, {impl.Trick{Start: three, Steps: []impl.Step{}}, true},
		{impl.Trick{}, false}, {impl.Trick{Start: []int{}}, false}, {impl.Trick{Start: order(13)}, false}, {impl.Trick{Start: order(5000)}, false}, {impl.Trick{Start: []int{5, 5}}, false}, {impl.Trick{Start: []int{5, -6}}, false}, {impl.Trick{Start: []int{12}}, false}, {impl.Trick{Start: []int{-13}}, false}, {impl.Trick{Claim: impl.ClCount}, false}, {impl.Trick{Claim: impl.ClOrder}, false},
		{impl.Trick{Start: three, A: 1}, false}, {impl.Trick{Start: three, B: 1}, false}, {impl.Trick{Start: three, A: -1}, false}, {impl.Trick{Start: three, Claim: impl.ClOrder, A: 1}, false}, {impl.Trick{Start: three, Claim: impl.ClOrder, B: 1}, false}, {impl.Trick{Start: three, Claim: impl.ClOrder, B: -1}, false},
		// ClNoted is only for tricks with a step StNote.
		{impl.Trick{Start: three, Steps: note, Claim: impl.ClNoted}, true}, {impl.Trick{Start: three, Steps: note, Claim: impl.ClNoted, A: 2}, true}, {impl.Trick{Start: three, Steps: note, Claim: impl.ClNoted, A: 3}, false}, {impl.Trick{Start: three, Steps: note, Claim: impl.ClNoted, A: -1}, false}, {impl.Trick{Start: three, Steps: note, Claim: impl.ClNoted, B: 1}, false},
		{impl.Trick{Start: three, Claim: impl.ClNoted}, false}, {impl.Trick{Start: three, Steps: []impl.Step{moveStep(impl.MvCut, 1), choiceStep(impl.ChPick)}, Claim: impl.ClNoted}, false}, {impl.Trick{Start: three, Steps: []impl.Step{moveStep(impl.MvCut, 1), choiceStep(impl.ChPick), noteStep(0)}, Claim: impl.ClNoted}, true}, {impl.Trick{Start: three, Steps: []impl.Step{noteStep(2), choiceStep(impl.ChPick)}, Claim: impl.ClNoted}, true},
		{impl.Trick{Start: three, Claim: impl.ClCount}, true}, {impl.Trick{Start: three, Claim: impl.ClCount, A: 3}, true}, {impl.Trick{Start: three, Claim: impl.ClCount, A: 4}, false}, {impl.Trick{Start: three, Claim: impl.ClCount, A: -1}, false}, {impl.Trick{Start: three, Claim: impl.ClCount, A: 1, B: 1}, false}, {impl.Trick{Start: upElements, Claim: impl.ClCount, A: 12}, true}, {impl.Trick{Start: upElements, Claim: impl.ClCount, A: 13}, false},
		// ClCard is only for a card of Start.
		{impl.Trick{Start: three, Claim: impl.ClCard, A: 5}, true}, {impl.Trick{Start: three, Claim: impl.ClCard, A: 7, B: 2}, true}, {impl.Trick{Start: three, Claim: impl.ClCard, A: 7, B: 3}, false}, {impl.Trick{Start: three, Claim: impl.ClCard, A: 7, B: -1}, false}, {impl.Trick{Start: three, Claim: impl.ClCard}, false}, {impl.Trick{Start: three, Claim: impl.ClCard, A: 8}, false}, {impl.Trick{Start: three, Claim: impl.ClCard, A: -8}, false}, {impl.Trick{Start: three, Claim: impl.ClCard, A: -1}, false}, {impl.Trick{Start: downElements, Claim: impl.ClCard, A: 12}, false}, {impl.Trick{Start: upElements, Claim: impl.ClCard, A: 11, B: 11}, true},
		{impl.Trick{Start: three, Claim: 5}, false}, {impl.Trick{Start: three, Claim: -1}, false}, {impl.Trick{Start: three, Claim: 1 << 32}, false}, {impl.Trick{Start: three, Steps: note, Claim: 1<<32 + 1}, false},
		{impl.Trick{Start: three, Steps: slices.Repeat(note, 12)}, true}, {impl.Trick{Start: three, Steps: slices.Repeat(note, 13)}, false}, {impl.Trick{Start: three, Steps: slices.Repeat(note, 5000)}, false}, {impl.Trick{Start: three, Steps: slices.Repeat([]impl.Step{choiceStep(impl.ChRiffle)}, 12)}, true}, {impl.Trick{Start: three, Steps: make([]impl.Step, 1)}, false},
		{impl.Trick{Start: []int{3}, Steps: []impl.Step{choiceStep(impl.ChPair)}}, false}, {impl.Trick{Start: []int{3, 4}, Steps: []impl.Step{choiceStep(impl.ChPair)}}, true}, {impl.Trick{Start: upElements[:7], Steps: []impl.Step{choiceStep(impl.ChRiffle)}}, true}, {impl.Trick{Start: upElements[:8], Steps: []impl.Step{choiceStep(impl.ChRiffle)}}, false},
	} {
		if got := impl.TrickOk(c.k); got != c.want {
			t.Errorf("TrickOk(%v) = %t", c.k, got)
		}
		if !c.want {
			wantNoTrick(t, c.k)
		}
	}
}

func TestP9EachClaimWithEachNumber(t *testing.T) {
	numbers := append(ascending(-2, 15, 1), math.MinInt64, math.MaxInt64, 1<<32, 1<<32+1, 256)
	for n := 1; n <= 12; n++ {
		for i, start := range movePackets(n) {
			for _, steps := range [][]impl.Step{nil, {moveStep(impl.MvMilk, 0), choiceStep(impl.ChNone)}, {noteStep(i % n)}, {noteStep(0), choiceStep(impl.ChCut), noteStep(n - 1)}} {
				k := impl.Trick{Start: start, Steps: steps}
				valid := map[[3]int]bool{}
				for _, c := range claimsOf(k) {
					valid[[3]int{c.Claim, c.A, c.B}] = true
				}
				for claim := -1; claim <= 5; claim++ {
					for _, a := range numbers {
						for _, b := range numbers {
							if got := impl.TrickOk(withClaim(k, claim, a, b)); got != valid[[3]int{claim, a, b}] {
								t.Errorf("TrickOk(%v) = %t", withClaim(k, claim, a, b), got)
							}
						}
					}
				}
				for _, far := range append(outsideOf(5), farNumbers...) {
					wantNoTrick(t, withClaim(k, far, 0, 0))
				}
			}
		}
	}
}

func TestP9OneStepSpoilsTheTrick(t *testing.T) {
	for _, n := range []int{1, 2, 3, 7, 8, 12} {
		var bads []impl.Step
		for kind := -1; kind <= 4; kind++ {
			for moves := range 11 {
				for k := -1; k <= n+1; k++ {
					for a := -1; a <= n; a++ {
						if s := (impl.Step{Kind: kind, Move: impl.Move{Kind: moves, K: k}, A: a}); !stepOk(n, s) {
							bads = append(bads, s)
						}
					}
				}
			}
		}
		for i, bad := range bads {
			steps := mixedSteps(n, 1+i%12, 3, i)
			k := impl.Trick{Start: upElements[:n], Steps: steps}
			if !impl.TrickOk(k) {
				t.Fatalf("%v is not valid", k)
			}
			steps[i/12%len(steps)] = bad
			if impl.TrickOk(k) || impl.CountChoices(k) != -1 {
				t.Errorf("%v is valid with the step %v", k, bad)
			}
			if i%50 == 0 {
				wantNoTrick(t, k)
			}
		}
	}
}

func TestP9NoTrickWithoutAValidPacket(t *testing.T) {
	for _, p := range slices.Concat(noPackets, spoiltPackets(), [][]int{nil, {}, order(13), order(5000)}) {
		wantNoTrick(t, impl.Trick{Start: p})
		wantNoTrick(t, impl.Trick{Start: p, Claim: impl.ClOrder})
		wantNoTrick(t, impl.Trick{Start: p, Claim: impl.ClCount})
		wantNoTrick(t, impl.Trick{Start: p, Steps: []impl.Step{choiceStep(impl.ChCut), noteStep(0)}, Claim: impl.ClNoted})
		wantScenes(t, impl.Scene{Packet: p, Noted: -1}, noteStep(0), nil)
		for _, s := range stepsOf(len(p)) {
			wantScenes(t, impl.Scene{Packet: p, Noted: -1}, s, nil)
		}
		if impl.ClaimHolds(impl.Trick{Start: []int{0, 1}}, impl.Scene{Packet: p, Noted: -1}) {
			t.Errorf("a claim holds for %v", p)
		}
	}
}

func TestP9NextScenes(t *testing.T) {
	three := []int{5, -8, 6}
	scenes := func(noted int, packets ...[]int) []impl.Scene {
		var list []impl.Scene
		for _, p := range packets {
			list = append(list, impl.Scene{Packet: p, Noted: noted})
		}
		return list
	}
	for _, c := range []struct {
		p     []int
		noted int
		s     impl.Step
		want  []impl.Scene
	}{
		{three, -1, moveStep(impl.MvCut, 1), scenes(-1, []int{-8, 6, 5})}, {three, 6, moveStep(impl.MvFlip, 2), scenes(6, []int{7, -6, 6})}, {three, 0, moveStep(impl.MvCut, 0), scenes(0, three)},
		{three, 5, choiceStep(impl.ChPick), scenes(5, []int{-8, 5, 6}, three, []int{6, 5, -8})}, {three, -1, choiceStep(impl.ChNone), scenes(-1, three)}, {three, 7, choiceStep(impl.ChCut), scenes(7, []int{-8, 6, 5}, three, []int{6, 5, -8})}, {three, 11, choiceStep(impl.ChPair), scenes(11, []int{-6, 6, 7}, []int{6, 7, -6}, []int{7, -6, 6})},
		{three, -1, choiceStep(impl.ChRiffle), scenes(-1, []int{-8, 5, 6}, []int{-8, 6, 5}, three, []int{5, 6, -8}, []int{6, 5, -8})}, {[]int{-1}, 3, choiceStep(impl.ChRiffle), scenes(3, []int{-1})}, {[]int{-1}, 3, choiceStep(impl.ChPair), nil},
		// A note takes the place of the one before, at the first and at the last index, of a card on each side.
		{three, -1, noteStep(0), scenes(5, three)}, {three, -1, noteStep(2), scenes(6, three)}, {three, -1, noteStep(1), scenes(7, three)}, {three, 6, noteStep(1), scenes(7, three)}, {three, 7, noteStep(1), scenes(7, three)}, {three, 11, noteStep(0), scenes(5, three)}, {three, -1, noteStep(3), nil}, {three, -1, noteStep(-1), nil}, {upElements, 0, noteStep(11), scenes(11, upElements)}, {[]int{-1}, -1, noteStep(0), scenes(0, []int{-1})},
		// Nothing noted, the last card that is allowed, and what is not; the packet need not have the card.
		{[]int{0, 1}, -1, moveStep(impl.MvCut, 1), scenes(-1, []int{1, 0})}, {[]int{0, 1}, 11, moveStep(impl.MvCut, 1), scenes(11, []int{1, 0})}, {[]int{0, 1}, 12, moveStep(impl.MvCut, 1), nil}, {[]int{0, 1}, -2, moveStep(impl.MvCut, 1), nil}, {[]int{0, 1}, 12, noteStep(0), nil}, {[]int{0, 1}, -2, noteStep(0), nil}, {[]int{0, 1}, 12, choiceStep(impl.ChNone), nil}, {[]int{0, 1}, -2, choiceStep(impl.ChNone), nil},
		{nil, -1, choiceStep(impl.ChNone), nil}, {nil, -1, noteStep(0), nil}, {nil, -1, moveStep(impl.MvCut, 0), nil}, {nil, -2, choiceStep(impl.ChNone), nil}, {order(13), -1, choiceStep(impl.ChNone), nil}, {[]int{0, 0}, -1, choiceStep(impl.ChNone), nil}, {[]int{12}, -1, choiceStep(impl.ChNone), nil}, {three, -1, impl.Step{}, nil}, {three, -1, choiceStep(5), nil}, {three, -1, moveStep(impl.MvCut, 4), nil}, {three, -1, impl.Step{Kind: 4}, nil},
		{upElements[:8], -1, choiceStep(impl.ChRiffle), nil}, {upElements, -1, choiceStep(impl.ChRiffle), nil}, {three, -1, impl.Step{Kind: impl.StMove, Move: impl.Move{Kind: impl.MvCut}, A: 1}, nil}, {three, -1, impl.Step{Kind: impl.StNote, Move: impl.Move{K: 1}}, nil}, {three, -1, impl.Step{Kind: impl.StChoice, Move: impl.Move{Kind: impl.MvCut}}, nil},
	} {
		wantScenes(t, impl.Scene{Packet: c.p, Noted: c.noted}, c.s, c.want)
	}
}

func TestP9NextScenesOfAllSteps(t *testing.T) {
	for n := 1; n <= 12; n++ {
		for i, p := range movePackets(n) {
			for j, s := range stepsOf(n) {
				for noted := -1; noted < 12; noted++ {
					// There are many riffles of seven cards.
					if n == 7 && s.Kind == 2 && s.A == 2 && (noted+i+j)%5 > 0 {
						continue
					}
					c := impl.Scene{Packet: p, Noted: noted}
					wantScenes(t, c, s, scenesAfter(c, s))
				}
				for _, noted := range append([]int{-2, 12}, farNumbers[1:]...) {
					wantScenes(t, impl.Scene{Packet: p, Noted: noted}, s, nil)
				}
			}
		}
	}
}

func TestP9RunTrick(t *testing.T) {
	three := []int{5, -8, 6}
	for _, c := range []struct {
		start  []int
		steps  []impl.Step
		picks  []int
		want   []int
		noted  int
		fails  bool
		reason string
	}{
		{start: three, want: three, noted: -1, reason: "without a step"}, {start: []int{-12}, want: []int{-12}, noted: -1, reason: "one card"}, {start: upElements, want: upElements, noted: -1, reason: "all cards"},
		{start: three, picks: []int{0}, fails: true, reason: "a pick without a choice"}, {start: three, picks: []int{}, want: three, noted: -1, reason: "no picks"},
		{start: three, steps: []impl.Step{moveStep(impl.MvCut, 1), noteStep(0), moveStep(impl.MvTurn, 0)}, want: []int{7, 6, 5}, noted: 7, reason: "no choice"},
		{start: three, steps: []impl.Step{noteStep(0), noteStep(2)}, want: three, noted: 6, reason: "a note that takes the place of another"},
		{start: three, steps: []impl.Step{noteStep(1), moveStep(impl.MvCut, 1), noteStep(1)}, want: []int{-8, 6, 5}, noted: 6, reason: "a note that takes the place of another"},
		{start: three, steps: []impl.Step{choiceStep(impl.ChPick), noteStep(0), moveStep(impl.MvCut, 1)}, picks: []int{2}, want: []int{5, -8, 6}, noted: 6, reason: "a pick"},
		{start: three, steps: []impl.Step{choiceStep(impl.ChPick), noteStep(0), moveStep(impl.MvCut, 1)}, picks: []int{0}, want: []int{5, 6, -8}, noted: 7, reason: "a pick"},
		{start: three, steps: []impl.Step{choiceStep(impl.ChPick)}, picks: []int{3}, fails: true, reason: "an index that does not exist"}, {start: three, steps: []impl.Step{choiceStep(impl.ChPick)}, picks: []int{-1}, fails: true, reason: "an index that does not exist"},
		{start: three, steps: []impl.Step{choiceStep(impl.ChNone)}, picks: []int{0}, want: three, noted: -1, reason: "one result"}, {start: three, steps: []impl.Step{choiceStep(impl.ChNone)}, picks: []int{1}, fails: true, reason: "one result"}, {start: three, steps: []impl.Step{choiceStep(impl.ChNone)}, fails: true, reason: "no pick"},
		{start: three, steps: []impl.Step{choiceStep(impl.ChCut), choiceStep(impl.ChPick)}, picks: []int{2, 0}, want: []int{-8, 6, 5}, noted: -1, reason: "two picks"}, {start: three, steps: []impl.Step{choiceStep(impl.ChCut), choiceStep(impl.ChPick)}, picks: []int{2, 3}, fails: true, reason: "the second pick"}, {start: three, steps: []impl.Step{choiceStep(impl.ChCut), choiceStep(impl.ChPick)}, picks: []int{3, 0}, fails: true, reason: "the first pick"}, {start: three, steps: []impl.Step{choiceStep(impl.ChCut), choiceStep(impl.ChPick)}, picks: []int{2}, fails: true, reason: "too few"}, {start: three, steps: []impl.Step{choiceStep(impl.ChCut), choiceStep(impl.ChPick)}, picks: []int{2, 0, 0}, fails: true, reason: "too many"},
		{start: order(7), steps: []impl.Step{choiceStep(impl.ChRiffle)}, picks: []int{120}, want: []int{6, 0, 1, 2, 3, 4, 5}, noted: -1, reason: "the last riffle"}, {start: order(7), steps: []impl.Step{choiceStep(impl.ChRiffle)}, picks: []int{121}, fails: true, reason: "behind the last riffle"}, {start: order(8), steps: []impl.Step{choiceStep(impl.ChRiffle)}, picks: []int{0}, fails: true, reason: "too many cards"},
		{start: three, steps: slices.Repeat([]impl.Step{moveStep(impl.MvCut, 1)}, 12), want: three, noted: -1, reason: "MaxSteps moves"}, {start: three, steps: slices.Repeat([]impl.Step{moveStep(impl.MvCut, 1)}, 13), fails: true, reason: "a step more"},
		{start: downElements, steps: slices.Repeat([]impl.Step{choiceStep(impl.ChCut)}, 12), picks: ascending(0, 12, 1), want: []int{11, 0, 1, 2, 3, 4, 5, 6, 7, 8, 9, 10}, noted: -1, reason: "MaxSteps choices"}, {start: downElements, steps: slices.Repeat([]impl.Step{choiceStep(impl.ChCut)}, 12), picks: ascending(0, 11, 1), fails: true, reason: "too few"}, {start: downElements, steps: slices.Repeat([]impl.Step{choiceStep(impl.ChCut)}, 13), picks: repeated(0, 13), fails: true, reason: "a step more"},
		{start: []int{0, 1}, steps: []impl.Step{choiceStep(impl.ChPair)}, picks: []int{1}, want: []int{-1, -2}, noted: -1, reason: "two cards"}, {start: []int{0}, steps: []impl.Step{choiceStep(impl.ChPair)}, picks: []int{0}, fails: true, reason: "one card"},
	} {
		got, ok := impl.RunTrick(impl.Trick{Start: c.start, Steps: c.steps}, c.picks)
		wantScene(t, fmt.Sprintf("the end (%s) of %v, %v by %v", c.reason, c.start, c.steps, c.picks), got, ok, impl.Scene{Packet: c.want, Noted: c.noted}, !c.fails)
	}
}

func TestP9ClaimHolds(t *testing.T) {
	three := []int{5, -8, 6}
	note := []impl.Step{noteStep(1)}
	for _, c := range []struct {
		k     impl.Trick
		p     []int
		noted int
		want  bool
	}{
		{impl.Trick{Start: three}, three, -1, true}, {impl.Trick{Start: three}, []int{-7, 7, 5}, 3, true}, {impl.Trick{Start: three}, []int{5, 6}, -1, false}, {impl.Trick{Start: three}, []int{5, 6, 8}, -1, false}, {impl.Trick{Start: three}, []int{5, 6, 7, 8}, -1, false}, {impl.Trick{Start: three}, nil, -1, false}, {impl.Trick{Start: three}, []int{5, 6, 6}, -1, false}, {impl.Trick{Start: three}, order(5000), -1, false},
		// What Noted is matters only to ClNoted.
		{impl.Trick{Start: three}, three, -2, true}, {impl.Trick{Start: three}, three, 12, true}, {impl.Trick{Start: three, Claim: impl.ClOrder}, three, math.MinInt64, true}, {impl.Trick{Start: three, Claim: impl.ClCount, A: 1}, three, 99, true}, {impl.Trick{Start: three, Claim: impl.ClCard, A: 5}, three, 99, true},
		{impl.Trick{Start: three, Steps: note, Claim: impl.ClNoted}, three, 5, true}, {impl.Trick{Start: three, Steps: note, Claim: impl.ClNoted}, three, 6, false}, {impl.Trick{Start: three, Steps: note, Claim: impl.ClNoted, A: 1}, three, 7, true}, {impl.Trick{Start: three, Steps: note, Claim: impl.ClNoted, A: 1}, three, -8, false}, {impl.Trick{Start: three, Steps: note, Claim: impl.ClNoted, A: 2}, []int{7, 6, -6}, 5, true}, {impl.Trick{Start: three, Steps: note, Claim: impl.ClNoted, A: 2}, []int{7, 5}, 5, false}, {impl.Trick{Start: three, Steps: note, Claim: impl.ClNoted, A: 2}, []int{7, 6, 5, 4}, 5, false},
		// No card noted yet, and a Noted that is none.
		{impl.Trick{Start: three, Steps: note, Claim: impl.ClNoted}, three, -1, false}, {impl.Trick{Start: three, Steps: note, Claim: impl.ClNoted, A: 1}, three, -1, false}, {impl.Trick{Start: []int{0}, Steps: []impl.Step{noteStep(0)}, Claim: impl.ClNoted}, []int{-1}, -1, false}, {impl.Trick{Start: []int{0}, Steps: []impl.Step{noteStep(0)}, Claim: impl.ClNoted}, []int{-1}, 0, true}, {impl.Trick{Start: three, Steps: note, Claim: impl.ClNoted}, three, 12, false}, {impl.Trick{Start: three, Steps: note, Claim: impl.ClNoted}, three, -2, false}, {impl.Trick{Start: upElements, Steps: note, Claim: impl.ClNoted, A: 11}, downElements, 11, true},
		// Without a step StNote, the trick is not valid.
		{impl.Trick{Start: three, Claim: impl.ClNoted}, three, 5, false}, {impl.Trick{Start: three, Steps: []impl.Step{choiceStep(impl.ChPick)}, Claim: impl.ClNoted}, three, 5, false},
		{impl.Trick{Start: three, Claim: impl.ClCount, A: 1}, three, -1, true}, {impl.Trick{Start: three, Claim: impl.ClCount, A: 2}, three, -1, false}, {impl.Trick{Start: three, Claim: impl.ClCount}, []int{5, 6, 7}, -1, true}, {impl.Trick{Start: three, Claim: impl.ClCount}, three, -1, false}, {impl.Trick{Start: three, Claim: impl.ClCount, A: 3}, []int{-6, -7, -8}, -1, true}, {impl.Trick{Start: three, Claim: impl.ClCount, A: 3}, []int{-6, -7, 7}, -1, false}, {impl.Trick{Start: downElements, Claim: impl.ClCount, A: 12}, upElements, -1, true}, {impl.Trick{Start: downElements, Claim: impl.ClCount, A: 12}, upElements[:11], -1, false}, {impl.Trick{Start: three, Claim: impl.ClCount, A: 1}, []int{-1}, -1, false},
		{impl.Trick{Start: three, Claim: impl.ClCard, A: 7, B: 1}, three, -1, true}, {impl.Trick{Start: three, Claim: impl.ClCard, A: 7, B: 1}, []int{6, 7, 5}, -1, true}, {impl.Trick{Start: three, Claim: impl.ClCard, A: 7, B: 1}, []int{7, 6, 5}, -1, false}, {impl.Trick{Start: three, Claim: impl.ClCard, A: 7, B: 1}, []int{6, 7}, -1, false}, {impl.Trick{Start: three, Claim: impl.ClCard, A: 5}, []int{-6, 7, 6}, 7, true},
		{impl.Trick{Start: three, Claim: impl.ClCard, A: 8, B: 1}, []int{5, 8, 6}, -1, false}, {impl.Trick{Start: three, Claim: impl.ClCard, A: 8, B: 1}, three, -1, false},
		// Only the sides differ.
		{impl.Trick{Start: three, Claim: impl.ClOrder}, three, 5, true}, {impl.Trick{Start: three, Claim: impl.ClOrder}, []int{5, 7, 6}, -1, false}, {impl.Trick{Start: three, Claim: impl.ClOrder}, []int{-6, -8, 6}, -1, false}, {impl.Trick{Start: three, Claim: impl.ClOrder}, []int{-8, 5, 6}, -1, false}, {impl.Trick{Start: downElements, Claim: impl.ClOrder}, upElements, -1, false}, {impl.Trick{Start: downElements, Claim: impl.ClOrder}, downElements, -1, true}, {impl.Trick{Start: three, Claim: impl.ClOrder}, three[:2], -1, false},
		{impl.Trick{}, nil, 0, false}, {impl.Trick{}, nil, -1, false}, {impl.Trick{Start: order(13)}, order(13), -1, false}, {impl.Trick{Start: []int{4, 4}, Claim: impl.ClOrder}, []int{4, 4}, -1, false},
	} {
		if got := impl.ClaimHolds(c.k, impl.Scene{Packet: c.p, Noted: c.noted}); got != c.want {
			t.Errorf("for %v and %d, the claim of %v is %t", c.p, c.noted, c.k, got)
		}
	}
}

func TestP9ClaimsOfAllScenes(t *testing.T) {
	for _, start := range [][]int{{0}, {-1}, {0, 11}, {5, -8}, {5, -8, 6}, {0, 1, 2}} {
		var cards []int
		for i := range start {
			cards = append(cards, cardAt(start, i))
		}
		packets := slices.Concat(sidedPackets(cards), sidedPackets(cards[1:]), sidedPackets(append(cards, 3)), sidedPackets([]int{1, 2}), [][]int{{0, 0}, {12}, nil})
		for _, k := range claimsOf(impl.Trick{Start: start, Steps: []impl.Step{choiceStep(impl.ChPick), noteStep(0)}}) {
			for _, p := range packets {
				for noted := -3; noted <= 13; noted++ {
					c := impl.Scene{Packet: p, Noted: noted}
					if got, want := impl.ClaimHolds(k, c), holds(k, c); got != want {
						t.Errorf("for %v, the claim of %v is %t", c, k, got)
					}
				}
			}
		}
	}
}

// Results share no memory with each other or with what they are made from.
func TestP9ScenesAreNew(t *testing.T) {
	for n := 1; n <= 9; n++ {
		for i, from := range movePackets(n) {
			behind := append(slices.Clone(from), 97, 98, 99)
			before := slices.Clone(behind)
			steps := append(mixedSteps(n, 3+i, 1, n+i), impl.Step{Kind: 99})
			stepsBefore := slices.Clone(steps)
			k := impl.Trick{Start: behind[:n], Steps: steps[:3+i]}
			want := runsOf(impl.Trick{Start: from, Steps: k.Steps})
			r := want[len(want)-1]
			picks := append(slices.Clone(r.picks), 77)[:len(r.picks)]
			for range 2 {
				var packets [][]int
				start, ok := impl.StartScene(k)
				wantScene(t, "the beginning", start, ok, impl.Scene{Packet: from, Noted: -1}, true)
				end, ok := impl.RunTrick(k, picks)
				wantScene(t, "the end", end, ok, r.end, true)
				again, _ := impl.RunTrick(k, picks)
				packets = append(packets, start.Packet, end.Packet, again.Packet)
				none, _ := impl.RunTrick(impl.Trick{Start: behind[:n]}, nil)
				packets = append(packets, none.Packet)
				for _, s := range stepsOf(n) {
					c := impl.Scene{Packet: behind[:n], Noted: 1}
					next := impl.NextScenes(c, s)
					if !slices.EqualFunc(next, scenesAfter(impl.Scene{Packet: from, Noted: 1}, s), sameScene) {
						t.Fatalf("after %v by %v come %v", c, s, next)
					}
					for _, scene := range next {
						packets = append(packets, scene.Packet)
					}
					clear(next[:cap(next)])
				}
				impl.ClaimHolds(k, impl.Scene{Packet: behind[:n]})
				impl.CountChoices(k)
				spoil(t, "scenes", packets)
				if !slices.Equal(behind, before) || !slices.Equal(steps, stepsBefore) || !slices.Equal(picks[:len(picks)+1], append(slices.Clone(r.picks), 77)) {
					t.Fatalf("%v, %v and %v have become %v, %v and %v", before, stepsBefore, r.picks, behind, steps, picks[:len(picks)+1])
				}
			}
		}
	}
}

func TestP9TricksThatAreNotValidAreNotChanged(t *testing.T) {
	for _, k := range []impl.Trick{
		{Start: []int{1, 1}, Steps: []impl.Step{noteStep(0)}}, {Start: []int{1, 0}, Steps: []impl.Step{noteStep(0), choiceStep(9)}}, {Start: []int{12}, Claim: 7}, {Start: []int{1, -1, 2}, Steps: []impl.Step{choiceStep(1), {}}, Claim: 3},
	} {
		start, steps := slices.Clone(k.Start), slices.Clone(k.Steps)
		picks := []int{5, 0}
		wantNoTrick(t, k)
		impl.RunTrick(k, picks)
		impl.NextScenes(impl.Scene{Packet: k.Start}, impl.Step{Kind: 7})
		impl.ClaimHolds(impl.Trick{Start: []int{1, 0}}, impl.Scene{Packet: k.Start})
		if !slices.Equal(k.Start, start) || !slices.Equal(k.Steps, steps) || !slices.Equal(picks, []int{5, 0}) {
			t.Errorf("%v and %v have become %v", start, steps, k)
		}
	}
}

func TestP9TricksAtTheSameTime(t *testing.T) {
	tricks := validTricks()
	var group sync.WaitGroup
	for worker := range 8 {
		group.Go(func() {
			for i := worker; i < len(tricks); i += 5 {
				k := tricks[i]
				runs := runsOf(k)
				for j := worker; j < len(runs); j += 1 + len(runs)/20 {
					wantRun(t, k, runs[j])
					if impl.ClaimHolds(k, runs[j].end) != holds(k, runs[j].end) || impl.CountChoices(k) != len(runs[j].picks) {
						t.Errorf("at the same time, %v ends by %v in %v, and its claim is %t", k, runs[j].picks, runs[j].end, impl.ClaimHolds(k, runs[j].end))
					}
				}
			}
		})
	}
	group.Wait()
}
