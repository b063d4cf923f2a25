package tests

import (
	"fmt"
	"math"
	"runtime"
	"slices"
	"sync"
	"testing"
	"time"

	"loop.example/g00846/impl"
)

// differentScenes returns each of the scenes once, in the order in which they come first.
func differentScenes(scenes []impl.Scene) []impl.Scene {
	var different []impl.Scene
	seen := map[string]bool{}
	for _, c := range scenes {
		if name := fmt.Sprint(c); !seen[name] {
			seen[name] = true
			different = append(different, c)
		}
	}
	return different
}

// endsOf returns the different ends of all runs of a trick with few runs, in the order in which they come first.
func endsOf(runs []run) []impl.Scene {
	var scenes []impl.Scene
	for _, r := range runs {
		scenes = append(scenes, r.end)
	}
	return differentScenes(scenes)
}

// levelsOf returns the different scenes after each step of a trick, beginning with those before the first one.
func levelsOf(k impl.Trick) [][]impl.Scene {
	levels := [][]impl.Scene{{{Packet: k.Start, Noted: -1}}}
	for i, s := range k.Steps {
		var scenes []impl.Scene
		for _, c := range levels[i] {
			scenes = append(scenes, scenesAfter(c, s)...)
		}
		levels = append(levels, differentScenes(scenes))
	}
	return levels
}

// verdictOf returns the verdict of a trick with these runs, which are all and not many.
func verdictOf(k impl.Trick, runs []run) impl.Verdict {
	for _, r := range runs {
		if !holds(k, r.end) {
			return impl.Verdict{Code: 2, Picks: r.picks, Last: r.end}
		}
	}
	return impl.Verdict{Code: 1}
}

func verdict(code int, picks []int, last impl.Scene) impl.Verdict {
	return impl.Verdict{Code: code, Picks: picks, Last: last}
}

func sameVerdict(a impl.Verdict, b impl.Verdict) bool {
	return a.Code == b.Code && slices.Equal(a.Picks, b.Picks) && sameScene(a.Last, b.Last)
}

// holdingOf returns how many of the scenes the claim of a trick holds for.
func holdingOf(k impl.Trick, scenes []impl.Scene) int {
	holding := 0
	for _, c := range scenes {
		if holds(k, c) {
			holding++
		}
	}
	return holding
}

// wantEnds checks AllScenes for a trick that does not have too many scenes.
func wantEnds(t *testing.T, k impl.Trick, want []impl.Scene) {
	t.Helper()
	got, ok := impl.AllScenes(k)
	if !ok || !slices.EqualFunc(got, want, sameScene) {
		t.Errorf("%v ends in %v, %t; want %v", k, got, ok, want)
	}
}

// wantCounts checks the numbers of ends of a trick, and of those for which its claim holds.
func wantCounts(t *testing.T, k impl.Trick, ends int, holding int) {
	t.Helper()
	if gotEnds, gotHolding := impl.CountEnds(k), impl.HoldingEnds(k); gotEnds != ends || gotHolding != holding {
		t.Errorf("%v has %d ends, its claim holds for %d; want %d, %d", k, gotEnds, gotHolding, ends, holding)
	}
}

// wantVerdict checks CheckTrick for a valid trick, and that the verdict proves it.
func wantVerdict(t *testing.T, k impl.Trick, want impl.Verdict) {
	t.Helper()
	got, ok := impl.CheckTrick(k)
	if !ok || !sameVerdict(got, want) {
		t.Errorf("the verdict of %v is %v, %t; want %v", k, got, ok, want)
	}
	wantProved(t, k, got, true)
}

func wantProved(t *testing.T, k impl.Trick, v impl.Verdict, want bool) {
	t.Helper()
	if got := impl.IsProved(k, v); got != want {
		t.Errorf("IsProved(%v, %v) = %t", k, v, got)
	}
}

// wantChecked checks all functions for a trick with these runs, which are all and not many.
func wantChecked(t *testing.T, k impl.Trick, runs []run) {
	t.Helper()
	ends := endsOf(runs)
	wantEnds(t, k, ends)
	wantCounts(t, k, len(ends), holdingOf(k, ends))
	wantVerdict(t, k, verdictOf(k, runs))
}

// wantMany checks all functions for a valid trick that has too many scenes after some step.
func wantMany(t *testing.T, k impl.Trick) {
	t.Helper()
	got, ok := impl.AllScenes(k)
	if ok || len(got) > 0 {
		t.Errorf("%v ends in %d scenes, %t", k, len(got), ok)
	}
	wantCounts(t, k, -1, -1)
	wantVerdict(t, k, impl.Verdict{Code: impl.VdMany})
	wantProved(t, k, impl.Verdict{Code: impl.VdHolds}, false)
	wantProved(t, k, impl.Verdict{Code: impl.VdMany, Picks: []int{0}}, false)
	wantProved(t, k, impl.Verdict{Code: impl.VdMany, Last: impl.Scene{Packet: k.Start}}, false)
	wantProved(t, k, impl.Verdict{Code: impl.VdMany, Last: impl.Scene{Noted: -1}}, false)
}

// wantNoCheck checks that each function fails for a trick that is not valid.
func wantNoCheck(t *testing.T, k impl.Trick) {
	t.Helper()
	of := fmt.Sprint(k)
	if len(of) > 300 {
		of = of[:300] + ".."
	}
	scenes, ok := impl.AllScenes(k)
	v, checked := impl.CheckTrick(k)
	if impl.TrickOk(k) || ok || len(scenes) > 0 || checked || !sameVerdict(v, impl.Verdict{}) {
		t.Errorf("%s ends in %v, %t; its verdict is %v, %t", of, scenes, ok, v, checked)
	}
	if ends, holding := impl.CountEnds(k), impl.HoldingEnds(k); ends != -1 || holding != -1 {
		t.Errorf("%s has %d ends, its claim holds for %d", of, ends, holding)
	}
	for code := -1; code <= 4; code++ {
		for picks := range 3 {
			for _, last := range []impl.Scene{{}, {Noted: -1}, {Packet: k.Start, Noted: -1}} {
				if impl.IsProved(k, impl.Verdict{Code: code, Picks: make([]int, picks), Last: last}) {
					t.Errorf("%s is proved by %d with %d picks", of, code, picks)
				}
			}
		}
	}
}

// mergingTricks are tricks in which several ways lead to the same scenes.
func mergingTricks() []impl.Trick {
	cut, riffle, pair, pick := choiceStep(impl.ChCut), choiceStep(impl.ChRiffle), choiceStep(impl.ChPair), choiceStep(impl.ChPick)
	return []impl.Trick{
		{Start: []int{0, 1, 2}, Steps: []impl.Step{cut, cut}},
		{Start: []int{3, -3, 5}, Steps: []impl.Step{cut, noteStep(0), cut, noteStep(0)}},
		{Start: []int{0, 1, 2}, Steps: []impl.Step{cut, noteStep(1), cut, moveStep(impl.MvDeal, 2), pick, noteStep(2)}},
		{Start: []int{2, 0, 1}, Steps: []impl.Step{pick, pick, pick, pick}},
		{Start: []int{0, 1, 2, 3}, Steps: []impl.Step{riffle, moveStep(impl.MvMilk, 0), riffle}},
		{Start: []int{4, 7, -2, 0}, Steps: []impl.Step{noteStep(3), cut, pick, noteStep(3), cut}},
		{Start: []int{4, 7, -2, 0}, Steps: []impl.Step{pair, noteStep(1), pair, moveStep(impl.MvDeal, 4), pair, pair, noteStep(0)}},
		{Start: []int{1, 0}, Steps: slices.Repeat([]impl.Step{pair, noteStep(0), cut}, 4)},
		{Start: []int{5, 6, -8}, Steps: []impl.Step{pick, noteStep(2), riffle, moveStep(impl.MvFlip, 3), pair, moveStep(impl.MvMonge, 1)}},
		{Start: order(12), Steps: []impl.Step{cut, cut, moveStep(impl.MvDuck, 0)}},
	}
}

// checkedTricks are valid tricks that have few runs.
func checkedTricks() []impl.Trick {
	tricks := append(validTricks(), mergingTricks()...)
	for n := 1; n <= 6; n++ {
		for i := range 12 {
			tricks = append(tricks, impl.Trick{Start: movePackets(n)[(n+i)%7], Steps: mixedSteps(n, 2+(3*n+i)%11, []int{1: 5, 2: 7, 3: 4, 4: 3, 5: 2, 6: 2}[n], 1000*n+i)})
		}
	}
	return tricks
}

// eachTrick calls check for each of the tricks and all its runs, for several of them at the same time.
func eachTrick(tricks []impl.Trick, check func(k impl.Trick, runs []run)) {
	const workers = 8
	var group sync.WaitGroup
	for worker := range workers {
		group.Go(func() {
			for i := worker; i < len(tricks); i += workers {
				check(tricks[i], runsOf(tricks[i]))
			}
		})
	}
	group.Wait()
}

func TestP8AllScenesAreTheEndsOfTheRuns(t *testing.T) {
	eachTrick(checkedTricks(), func(k impl.Trick, runs []run) {
		scenes, ok := impl.AllScenes(k)
		if !ok || len(scenes) == 0 {
			t.Errorf("%v ends in %v, %t", k, scenes, ok)
			return
		}
		// The scene that is found next is the first one that is none of those before.
		found := 0
		for _, r := range runs {
			c, _ := impl.RunTrick(k, r.picks)
			at := slices.IndexFunc(scenes, func(d impl.Scene) bool { return impl.SameScene(c, d) })
			if at < 0 || at > found {
				t.Errorf("by %v, %v ends in %v, which is at %d of %v after %d of them", r.picks, k, c, at, scenes, found)
				return
			}
			if at == found {
				found++
			}
		}
		if found != len(scenes) {
			t.Errorf("%v ends in %d scenes, but its runs in %d", k, len(scenes), found)
		}
		for i, c := range scenes {
			for _, d := range scenes[:i] {
				if impl.SameScene(c, d) || impl.SameScene(d, c) {
					t.Errorf("%v ends twice in %v", k, c)
				}
			}
		}
	})
}

func TestP8ATrickHoldsIfItsClaimDoesForAllScenes(t *testing.T) {
	var lock sync.Mutex
	codes := [5]map[int]bool{{}, {}, {}, {}, {}}
	eachTrick(checkedTricks(), func(from impl.Trick, runs []run) {
		for _, k := range claimsOf(from) {
			if len(runs) > 300 && k.A%3 > 0 {
				continue
			}
			scenes, _ := impl.AllScenes(k)
			holding := 0
			for _, c := range scenes {
				if impl.ClaimHolds(k, c) {
					holding++
				}
			}
			v, ok := impl.CheckTrick(k)
			want := impl.VdHolds
			if holding < len(scenes) {
				want = impl.VdFails
			}
			if !ok || v.Code != want {
				t.Errorf("the claim of %v holds for %d of %d, but the verdict is %v", k, holding, len(scenes), v)
			}
			wantCounts(t, k, len(scenes), holding)
			if v.Code == impl.VdHolds && (len(v.Picks) > 0 || !sameScene(v.Last, impl.Scene{})) {
				t.Errorf("a claim that holds has the verdict %v", v)
			}
			lock.Lock()
			codes[k.Claim][v.Code] = true
			lock.Unlock()
		}
	})
	for claim, seen := range codes {
		if !seen[impl.VdHolds] || seen[impl.VdFails] != (claim != impl.ClNone) {
			t.Errorf("of the claim %d, all tests have the same verdict", claim)
		}
	}
}

func TestP8FailuresHaveTheLeastPicks(t *testing.T) {
	eachTrick(checkedTricks(), func(from impl.Trick, runs []run) {
		for i, k := range claimsOf(from) {
			v, _ := impl.CheckTrick(k)
			if v.Code != impl.VdFails || len(runs) > 300 && i%5 > 0 {
				continue
			}
			last, ok := impl.RunTrick(k, v.Picks)
			if !ok || !impl.SameScene(last, v.Last) || impl.ClaimHolds(k, last) {
				t.Errorf("by %v, %v ends in %v, %t; want %v, for which its claim fails", v.Picks, k, last, ok, v.Last)
			}
			for _, r := range runs {
				if slices.Compare(r.picks, v.Picks) >= 0 {
					break
				}
				if c, ok := impl.RunTrick(k, r.picks); !ok || !impl.ClaimHolds(k, c) {
					t.Errorf("%v fails for %v already, not only for %v", k, r.picks, v.Picks)
				}
			}
		}
	})
}

// A failure is proved by each list of picks for which the claim fails, and only with the scene to which it leads.
func TestP8FailuresAreProvedByTheirPicks(t *testing.T) {
	eachTrick(checkedTricks(), func(from impl.Trick, runs []run) {
		for i, k := range claimsOf(from) {
			if i%8 != len(runs)%8 {
				continue
			}
			checked, _ := impl.CheckTrick(k)
			wantProved(t, k, checked, true)
			wantProved(t, k, impl.Verdict{Code: impl.VdHolds}, checked.Code == impl.VdHolds)
			wantProved(t, k, impl.Verdict{Code: impl.VdMany}, false)
			for j := 0; j < len(runs); j += 1 + len(runs)/12 {
				r, other := runs[j], runs[(j+1)%len(runs)]
				fails := !holds(k, r.end)
				wantProved(t, k, impl.Verdict{Code: impl.VdFails, Picks: r.picks, Last: r.end}, fails)
				wantProved(t, k, impl.Verdict{Code: impl.VdFails, Picks: other.picks, Last: r.end}, fails && sameScene(other.end, r.end))
				wantProved(t, k, impl.Verdict{Code: impl.VdFails, Picks: r.picks, Last: impl.Scene{Packet: r.end.Packet, Noted: r.end.Noted + 1}}, false)
				wantProved(t, k, impl.Verdict{Code: impl.VdFails, Picks: r.picks}, false)
				wantProved(t, k, impl.Verdict{Code: impl.VdFails, Picks: append(slices.Clone(r.picks), 0), Last: r.end}, false)
				if len(r.picks) > 0 {
					wantProved(t, k, impl.Verdict{Code: impl.VdFails, Picks: r.picks[1:], Last: r.end}, false)
				}
				for _, code := range []int{0, 1, 3, 4, -1} {
					// What belongs to a failure proves nothing else.
					wantProved(t, k, impl.Verdict{Code: code, Picks: r.picks, Last: r.end}, false)
				}
			}
		}
	})
}

func TestP8TricksAreProvedForAllChoices(t *testing.T) {
	for n := 2; n <= 12; n++ {
		cut, pair, pick := choiceStep(impl.ChCut), choiceStep(impl.ChPair), choiceStep(impl.ChPick)
		for _, k := range []impl.Trick{
			// A card is picked, noted and lost, and found at the end.
			{Steps: []impl.Step{pick, noteStep(0), moveStep(impl.MvUnder, 0)}, Claim: impl.ClNoted, A: n - 1},
			{Steps: []impl.Step{cut, noteStep(n - 1), moveStep(impl.MvFlip, n), moveStep(impl.MvTurn, 0)}, Claim: impl.ClNoted},
			// Cuts and picks turn nothing over.
			{Steps: []impl.Step{cut, pick, cut}, Claim: impl.ClCount},
			{Steps: []impl.Step{pick, noteStep(1), choiceStep(impl.ChNone)}, Claim: impl.ClNoted, A: 1},
		} {
			k.Start = order(n)
			wantChecked(t, k, runsOf(k))
			wantProved(t, k, impl.Verdict{Code: impl.VdHolds}, true)
			if v, _ := impl.CheckTrick(k); v.Code != impl.VdHolds {
				t.Errorf("the verdict of %v is %v", k, v)
			}
		}
		if n%2 == 1 || n > 8 {
			continue
		}
		// Turned pairs of cards that all lay face down: a turn of every second card leaves half of them face up.
		k := impl.Trick{Start: order(n), Steps: []impl.Step{pair, pair, pair}, Claim: impl.ClCount, A: n / 2}
		for at := 0; at < n; at += 2 {
			k.Steps = append(k.Steps, moveStep(impl.MvTurn, at))
		}
		wantVerdict(t, k, impl.Verdict{Code: impl.VdHolds})
		k.A++
		wantChecked(t, k, runsOf(k))
		wantVerdict(t, k, impl.Verdict{Code: impl.VdFails, Picks: []int{0, 0, 0}, Last: runsOf(k)[0].end})
	}
}

// Scenes that are equal again after a later step are the same, and only the least picks count.
func TestP8ScenesThatBecomeEqualAgain(t *testing.T) {
	for _, from := range mergingTricks() {
		runs := runsOf(from)
		merged := false
		levels := levelsOf(from)
		for i, s := range from.Steps {
			count := 0
			for _, c := range levels[i] {
				count += len(scenesAfter(c, s))
			}
			merged = merged || len(levels[i+1]) < count
		}
		if !merged {
			t.Errorf("no scenes of %v become equal", from)
		}
		for _, k := range claimsOf(from) {
			wantChecked(t, k, runs)
		}
	}
	// By a cut and a second one, each of the three orders is found; the first card noted does not matter after the second note.
	k := impl.Trick{Start: []int{0, 1, 2}, Steps: []impl.Step{choiceStep(impl.ChCut), noteStep(0), choiceStep(impl.ChCut), noteStep(0)}, Claim: impl.ClNoted}
	wantCounts(t, impl.Trick{Start: k.Start, Steps: k.Steps[:3]}, 9, 9)
	wantCounts(t, k, 3, 3)
}

// largeTricks are tricks with many scenes after some step; most is the greatest number of them.
func largeTricks() []struct {
	k    impl.Trick
	most int
} {
	cut, riffle, pair, pick := choiceStep(impl.ChCut), choiceStep(impl.ChRiffle), choiceStep(impl.ChPair), choiceStep(impl.ChPick)
	// Each of the five cards noted, in all orders, with each two adjacent ones turned over.
	exact := []impl.Step{pick, noteStep(0), riffle, riffle, riffle, pair}
	// Each of six cards noted, in all orders.
	more := []impl.Step{pick, noteStep(0), riffle, riffle, riffle}
	with := func(steps []impl.Step, s ...impl.Step) []impl.Step { return slices.Concat(steps, s) }
	return []struct {
		k    impl.Trick
		most int
	}{
		{impl.Trick{Start: order(5), Steps: exact}, 3000},
		{impl.Trick{Start: order(5), Steps: with(exact, noteStep(2), moveStep(impl.MvMilk, 0))}, 3000},
		{impl.Trick{Start: order(5), Steps: with(exact, cut)}, 3000},
		{impl.Trick{Start: order(5), Steps: with(exact, pair)}, 6600},
		{impl.Trick{Start: order(6), Steps: more}, 4320},
		{impl.Trick{Start: order(6), Steps: with(more, noteStep(5))}, 4320},
		{impl.Trick{Start: order(6), Steps: with(more, moveStep(impl.MvCut, 2), choiceStep(impl.ChNone), noteStep(0))}, 4320},
		{impl.Trick{Start: order(6), Steps: []impl.Step{riffle, pick, moveStep(impl.MvFaro, 1), noteStep(2), cut, pick, noteStep(0)}}, 3005},
		{impl.Trick{Start: order(9), Steps: slices.Repeat([]impl.Step{pick}, 3)}, 504},
		{impl.Trick{Start: order(9), Steps: slices.Repeat([]impl.Step{pick}, 4)}, 3024},
		{impl.Trick{Start: upElements, Steps: []impl.Step{pick, pick, pick}}, 1320},
		{impl.Trick{Start: upElements, Steps: []impl.Step{pick, pick, pick, pick}}, 11880},
		{impl.Trick{Start: order(6), Steps: slices.Repeat([]impl.Step{riffle}, 4)}, 720},
		{impl.Trick{Start: order(7), Steps: []impl.Step{riffle, riffle}}, 3728},
		{impl.Trick{Start: order(7), Steps: []impl.Step{riffle, cut}}, 406},
	}
}

func TestP8TooManyScenes(t *testing.T) {
	for _, c := range largeTricks() {
		levels := levelsOf(c.k)
		most := 0
		for _, scenes := range levels {
			most = max(most, len(scenes))
		}
		if most != c.most {
			t.Fatalf("%v has at most %d scenes after a step, want %d", c.k, most, c.most)
		}
		ends := levels[len(levels)-1]
		for i, k := range claimsOf(c.k) {
			if i > 1 && i%19 > 0 {
				continue
			}
			if most > 3000 {
				wantMany(t, k)
				continue
			}
			wantEnds(t, k, ends)
			wantCounts(t, k, len(ends), holdingOf(k, ends))
			v, _ := impl.CheckTrick(k)
			if at := slices.IndexFunc(ends, func(c impl.Scene) bool { return !holds(k, c) }); at < 0 {
				wantVerdict(t, k, impl.Verdict{Code: impl.VdHolds})
			} else {
				// There are too many runs to look for the least picks otherwise.
				wantVerdict(t, k, impl.Verdict{Code: impl.VdFails, Picks: v.Picks, Last: ends[at]})
			}
		}
	}
}

// A failure can be proved even where there are too many scenes to check all of them.
func TestP8FailuresOfTricksWithTooManyScenes(t *testing.T) {
	k := impl.Trick{Start: order(7), Steps: slices.Repeat([]impl.Step{choiceStep(impl.ChRiffle)}, 3), Claim: impl.ClOrder}
	wantMany(t, k)
	c, _ := impl.RunTrick(k, []int{120, 0, 7})
	wantProved(t, k, impl.Verdict{Code: impl.VdFails, Picks: []int{120, 0, 7}, Last: c}, true)
	wantProved(t, k, impl.Verdict{Code: impl.VdFails, Picks: []int{0, 0, 0}, Last: impl.Scene{Packet: k.Start, Noted: -1}}, false)
	wantProved(t, k, impl.Verdict{Code: impl.VdFails, Picks: []int{120, 0, 121}, Last: c}, false)
	wantProved(t, k, impl.Verdict{Code: impl.VdFails}, false)
}

// scenesOf returns scenes with the cards noted and packets that follow in turn.
func scenesOf(parts ...any) []impl.Scene {
	var scenes []impl.Scene
	for i := 0; i < len(parts); i += 2 {
		scenes = append(scenes, impl.Scene{Noted: parts[i].(int), Packet: parts[i+1].([]int)})
	}
	return scenes
}

func TestP9CheckedTricks(t *testing.T) {
	cut, riffle, pair, pick := choiceStep(impl.ChCut), choiceStep(impl.ChRiffle), choiceStep(impl.ChPair), choiceStep(impl.ChPick)
	three, sides := []int{0, 1, 2}, []int{-1, -2, 2}
	for _, c := range []struct {
		k       impl.Trick
		ends    []impl.Scene
		holding int
		picks   []int // nil where the claim holds
		last    int
	}{
		// Without a step.
		{k: impl.Trick{Start: three}, ends: scenesOf(-1, three), holding: 1},
		{k: impl.Trick{Start: []int{-12}, Claim: impl.ClOrder}, ends: scenesOf(-1, []int{-12}), holding: 1},
		{k: impl.Trick{Start: upElements, Claim: impl.ClCount, A: 12}, ends: scenesOf(-1, upElements), holding: 1},
		{k: impl.Trick{Start: upElements, Claim: impl.ClCount, A: 11}, ends: scenesOf(-1, upElements), picks: []int{}},
		{k: impl.Trick{Start: three, Claim: impl.ClCard, A: 2, B: 1}, ends: scenesOf(-1, three), picks: []int{}},
		// Without a choice.
		{k: impl.Trick{Start: three, Steps: []impl.Step{moveStep(impl.MvCut, 1), noteStep(0)}, Claim: impl.ClNoted}, ends: scenesOf(1, []int{1, 2, 0}), holding: 1},
		{k: impl.Trick{Start: three, Steps: []impl.Step{noteStep(0), moveStep(impl.MvCut, 1)}, Claim: impl.ClNoted, A: 1}, ends: scenesOf(0, []int{1, 2, 0}), picks: []int{}},
		{k: impl.Trick{Start: three, Steps: []impl.Step{moveStep(impl.MvFlip, 2)}, Claim: impl.ClOrder}, ends: scenesOf(-1, []int{-2, -1, 2}), picks: []int{}},
		// One choice, also with one result.
		{k: impl.Trick{Start: three, Steps: []impl.Step{choiceStep(impl.ChNone)}, Claim: impl.ClOrder}, ends: scenesOf(-1, three), holding: 1},
		{k: impl.Trick{Start: three, Steps: []impl.Step{choiceStep(impl.ChNone)}, Claim: impl.ClCount, A: 1}, ends: scenesOf(-1, three), picks: []int{0}},
		{k: impl.Trick{Start: three, Steps: []impl.Step{pick, noteStep(0), moveStep(impl.MvCut, 1)}, Claim: impl.ClNoted, A: 2}, ends: scenesOf(0, []int{1, 2, 0}, 1, []int{0, 2, 1}, 2, three), holding: 3},
		{k: impl.Trick{Start: three, Steps: []impl.Step{pick, noteStep(0), moveStep(impl.MvCut, 1)}, Claim: impl.ClNoted}, ends: scenesOf(0, []int{1, 2, 0}, 1, []int{0, 2, 1}, 2, three), picks: []int{0}},
		{k: impl.Trick{Start: three, Steps: []impl.Step{cut}, Claim: impl.ClOrder}, ends: scenesOf(-1, three, -1, []int{1, 2, 0}, -1, []int{2, 0, 1}), holding: 1, picks: []int{1}, last: 1},
		{k: impl.Trick{Start: three, Steps: []impl.Step{riffle}}, ends: scenesOf(-1, three, -1, []int{0, 2, 1}, -1, []int{1, 0, 2}, -1, []int{1, 2, 0}, -1, []int{2, 0, 1}), holding: 5},
		{k: impl.Trick{Start: three, Steps: []impl.Step{pair}, Claim: impl.ClCount, A: 2}, ends: scenesOf(-1, []int{-2, -1, 2}, -1, []int{-1, 2, -2}, -1, []int{2, -2, -1}), holding: 3},
		// A claim that fails only for the last scene, and one that fails only for the first.
		{k: impl.Trick{Start: sides, Steps: []impl.Step{cut, moveStep(impl.MvTurn, 0)}, Claim: impl.ClCount, A: 1}, ends: scenesOf(-1, []int{1, 2, -1}, -1, []int{0, -2, 2}, -1, []int{-3, -1, -2}), holding: 2, picks: []int{2}, last: 2},
		{k: impl.Trick{Start: []int{0, 1, -3}, Steps: []impl.Step{cut, moveStep(impl.MvTurn, 0)}, Claim: impl.ClCount, A: 2}, ends: scenesOf(-1, []int{2, 0, 1}, -1, []int{-1, 1, -3}, -1, []int{-2, -3, 0}), holding: 2, picks: []int{0}},
		// Equal packets with another card noted.
		{k: impl.Trick{Start: []int{0, 1}, Steps: []impl.Step{cut, noteStep(0), cut}}, ends: scenesOf(0, []int{0, 1}, 0, []int{1, 0}, 1, []int{0, 1}, 1, []int{1, 0}), holding: 4},
		{k: impl.Trick{Start: []int{0, 1}, Steps: []impl.Step{cut, noteStep(0), cut}, Claim: impl.ClNoted}, ends: scenesOf(0, []int{0, 1}, 0, []int{1, 0}, 1, []int{0, 1}, 1, []int{1, 0}), holding: 2, picks: []int{0, 1}, last: 1},
		{k: impl.Trick{Start: []int{0, 1}, Steps: []impl.Step{cut, noteStep(0), cut}, Claim: impl.ClOrder}, ends: scenesOf(0, []int{0, 1}, 0, []int{1, 0}, 1, []int{0, 1}, 1, []int{1, 0}), holding: 2, picks: []int{0, 1}, last: 1},
		// Scenes that are equal again after a later step.
		{k: impl.Trick{Start: []int{0, 1}, Steps: []impl.Step{cut, noteStep(0), cut, noteStep(0)}, Claim: impl.ClNoted}, ends: scenesOf(0, []int{0, 1}, 1, []int{1, 0}), holding: 2},
		{k: impl.Trick{Start: three, Steps: []impl.Step{cut, cut}, Claim: impl.ClCard, A: 2, B: 2}, ends: scenesOf(-1, three, -1, []int{1, 2, 0}, -1, []int{2, 0, 1}), holding: 1, picks: []int{0, 1}, last: 1},
		// The order in which scenes are found is not that of their packets.
		{k: impl.Trick{Start: three, Steps: []impl.Step{cut, moveStep(impl.MvDeal, 3), pick}, Claim: impl.ClCard, A: 2, B: 1}, ends: scenesOf(-1, []int{0, 2, 1}, -1, []int{1, 2, 0}, -1, []int{2, 1, 0}, -1, []int{1, 0, 2}, -1, []int{2, 0, 1}, -1, three), holding: 2, picks: []int{0, 2}, last: 2},
		{k: impl.Trick{Start: three, Steps: []impl.Step{cut, moveStep(impl.MvDeal, 3), pick}, Claim: impl.ClCount}, ends: scenesOf(-1, []int{0, 2, 1}, -1, []int{1, 2, 0}, -1, []int{2, 1, 0}, -1, []int{1, 0, 2}, -1, []int{2, 0, 1}, -1, three), holding: 6},
		// Claims that fail after a pick that is not 0, and only for the second pick.
		{k: impl.Trick{Start: []int{1, 0}, Steps: []impl.Step{cut, pair}, Claim: impl.ClCount, A: 2}, ends: scenesOf(-1, []int{-2, -1}, -1, []int{-1, -2}), holding: 2},
		{k: impl.Trick{Start: []int{1, 0}, Steps: []impl.Step{choiceStep(impl.ChNone), cut}, Claim: impl.ClOrder}, ends: scenesOf(-1, []int{0, 1}, -1, []int{1, 0}), holding: 1, picks: []int{0, 0}},
		{k: impl.Trick{Start: []int{0, 1}, Steps: []impl.Step{choiceStep(impl.ChNone), cut}, Claim: impl.ClOrder}, ends: scenesOf(-1, []int{0, 1}, -1, []int{1, 0}), holding: 1, picks: []int{0, 1}, last: 1},
		{k: impl.Trick{Start: []int{0, 1}, Steps: []impl.Step{cut, choiceStep(impl.ChNone)}, Claim: impl.ClOrder}, ends: scenesOf(-1, []int{0, 1}, -1, []int{1, 0}), holding: 1, picks: []int{1, 0}, last: 1},
		// The most steps.
		{k: impl.Trick{Start: []int{0, 1}, Steps: slices.Repeat([]impl.Step{cut}, 12), Claim: impl.ClOrder}, ends: scenesOf(-1, []int{0, 1}, -1, []int{1, 0}), holding: 1, picks: []int{0, 0, 0, 0, 0, 0, 0, 0, 0, 0, 0, 1}, last: 1},
		{k: impl.Trick{Start: []int{7}, Steps: slices.Repeat([]impl.Step{riffle, pick, noteStep(0)}, 4), Claim: impl.ClNoted}, ends: scenesOf(7, []int{7}), holding: 1},
		{k: impl.Trick{Start: []int{7}, Steps: slices.Repeat([]impl.Step{riffle, pick, noteStep(0)}, 4), Claim: impl.ClCount, A: 1}, ends: scenesOf(7, []int{7}), picks: repeated(0, 8)},
	} {
		wantEnds(t, c.k, c.ends)
		wantCounts(t, c.k, len(c.ends), c.holding)
		if want := (impl.Verdict{Code: impl.VdHolds}); c.picks == nil {
			wantVerdict(t, c.k, want)
		} else {
			wantVerdict(t, c.k, impl.Verdict{Code: impl.VdFails, Picks: c.picks, Last: c.ends[c.last]})
			wantProved(t, c.k, want, false)
		}
	}
}

func TestP9IsProved(t *testing.T) {
	three := []int{0, 1, 2}
	steps := []impl.Step{choiceStep(impl.ChPick), noteStep(0), choiceStep(impl.ChCut)}
	fails := impl.Trick{Start: three, Steps: steps, Claim: impl.ClNoted}
	works := impl.Trick{Start: three, Steps: steps, Claim: impl.ClCount}
	nothing := impl.Trick{Start: three, Steps: steps}
	many := impl.Trick{Start: order(7), Steps: slices.Repeat([]impl.Step{choiceStep(impl.ChRiffle)}, 3)}
	last := func(noted int, packet ...int) impl.Scene { return impl.Scene{Packet: packet, Noted: noted} }
	for _, c := range []struct {
		k    impl.Trick
		v    impl.Verdict
		want bool
	}{
		// The least picks, other ones, and picks for which the claim holds.
		{fails, verdict(2, []int{0, 1}, last(0, 1, 2, 0)), true}, {fails, verdict(2, []int{2, 1}, last(2, 1, 2, 0)), true}, {fails, verdict(2, []int{2, 0}, last(2, 0, 1, 2)), true}, {fails, verdict(2, []int{0, 0}, last(0, 0, 1, 2)), false}, {fails, verdict(2, []int{2, 2}, last(2, 2, 0, 1)), false},
		// Too few picks, too many, and such as do not exist.
		{fails, verdict(2, []int{0}, last(0, 1, 2, 0)), false}, {fails, verdict(2, nil, last(0, 1, 2, 0)), false}, {fails, verdict(2, []int{0, 1, 0}, last(0, 1, 2, 0)), false}, {fails, verdict(2, make([]int, 5000), last(0, 1, 2, 0)), false}, {fails, verdict(2, []int{0, 3}, last(0, 1, 2, 0)), false}, {fails, verdict(2, []int{0, -1}, last(0, 1, 2, 0)), false}, {fails, verdict(2, []int{3, 1}, last(0, 1, 2, 0)), false}, {fails, verdict(2, []int{math.MinInt64, math.MaxInt64}, last(0, 1, 2, 0)), false}, {fails, verdict(2, []int{1 << 32, 1}, last(0, 1, 2, 0)), false}, {fails, verdict(2, []int{3, 1}, impl.Scene{}), false},
		// A scene to which the picks do not lead, for which the claim may fail, too.
		{fails, verdict(2, []int{0, 1}, last(0, 2, 0, 1)), false}, {fails, verdict(2, []int{0, 1}, last(2, 1, 2, 0)), false}, {fails, verdict(2, []int{0, 1}, last(-1, 1, 2, 0)), false}, {fails, verdict(2, []int{0, 1}, last(0, 1, 2, -1)), false}, {fails, verdict(2, []int{0, 1}, last(0, 1, 2)), false}, {fails, verdict(2, []int{0, 1}, last(0, 1, 2, 0, 3)), false}, {fails, verdict(2, []int{0, 1}, impl.Scene{}), false}, {fails, verdict(2, []int{0, 0}, last(0, 1, 2, 0)), false}, {fails, verdict(2, []int{0, 1}, last(0, order(5000)...)), false},
		// Other codes.
		{fails, impl.Verdict{Code: 1}, false}, {fails, impl.Verdict{Code: 2}, false}, {fails, impl.Verdict{Code: 3}, false}, {fails, impl.Verdict{}, false}, {fails, verdict(1, []int{0, 1}, last(0, 1, 2, 0)), false}, {fails, verdict(3, []int{0, 1}, last(0, 1, 2, 0)), false}, {fails, verdict(0, []int{0, 1}, last(0, 1, 2, 0)), false}, {fails, verdict(4, []int{0, 1}, last(0, 1, 2, 0)), false}, {fails, verdict(-2, []int{0, 1}, last(0, 1, 2, 0)), false}, {fails, verdict(1<<32+2, []int{0, 1}, last(0, 1, 2, 0)), false},
		// A claim that holds.
		{works, impl.Verdict{Code: 1}, true}, {works, verdict(1, []int{}, impl.Scene{Packet: []int{}}), true}, {works, verdict(1, []int{0, 0}, impl.Scene{}), false}, {works, verdict(1, nil, last(0)), true}, {works, verdict(1, nil, last(-1)), false}, {works, verdict(1, nil, last(0, 0, 1, 2)), false}, {works, verdict(1, []int{0, 0}, last(0, 0, 1, 2)), false}, {works, verdict(1, []int{0}, impl.Scene{}), false}, {works, impl.Verdict{Code: 2}, false}, {works, verdict(2, []int{0, 0}, last(0, 0, 1, 2)), false}, {works, impl.Verdict{Code: 3}, false}, {works, impl.Verdict{}, false}, {works, impl.Verdict{Code: 4}, false}, {works, impl.Verdict{Code: -1}, false}, {works, impl.Verdict{Code: 1<<32 + 1}, false}, {works, impl.Verdict{Code: math.MaxInt64}, false}, {works, impl.Verdict{Code: math.MinInt64 + 1}, false},
		{nothing, impl.Verdict{Code: 1}, true}, {nothing, verdict(2, []int{0, 0}, last(0, 0, 1, 2)), false},
		{impl.Trick{Start: three}, impl.Verdict{Code: 1}, true}, {impl.Trick{Start: three}, verdict(2, nil, last(-1, 0, 1, 2)), false}, {impl.Trick{Start: three, Claim: impl.ClCount, A: 1}, verdict(2, nil, last(-1, 0, 1, 2)), true}, {impl.Trick{Start: three, Claim: impl.ClCount, A: 1}, verdict(2, []int{0}, last(-1, 0, 1, 2)), false}, {impl.Trick{Start: three, Claim: impl.ClCount, A: 1}, impl.Verdict{Code: 1}, false},
		// Too many scenes.
		{many, impl.Verdict{Code: 3}, true}, {many, verdict(3, []int{}, impl.Scene{Packet: []int{}}), true}, {many, verdict(3, []int{0, 0, 0}, impl.Scene{}), false}, {many, verdict(3, nil, last(-1)), false}, {many, verdict(3, nil, last(0, 0, 1, 2, 3, 4, 5, 6)), false}, {many, impl.Verdict{Code: 1}, false}, {many, impl.Verdict{Code: 2}, false}, {many, verdict(2, []int{0, 0, 0}, last(-1, 0, 1, 2, 3, 4, 5, 6)), false}, {many, impl.Verdict{}, false}, {many, impl.Verdict{Code: 4}, false}, {many, impl.Verdict{Code: 1<<32 + 3}, false},
		// No trick.
		{impl.Trick{}, impl.Verdict{}, false}, {impl.Trick{}, impl.Verdict{Code: 1}, false}, {impl.Trick{}, impl.Verdict{Code: 2}, false}, {impl.Trick{}, impl.Verdict{Code: 3}, false}, {impl.Trick{Start: three, A: 1}, impl.Verdict{Code: 1}, false}, {impl.Trick{Start: three, A: 1}, verdict(2, nil, last(-1, 0, 1, 2)), false},
	} {
		wantProved(t, c.k, c.v, c.want)
	}
}

func TestP9SameScene(t *testing.T) {
	for _, c := range []struct {
		a, b impl.Scene
		want bool
	}{
		{impl.Scene{}, impl.Scene{}, true}, {impl.Scene{}, impl.Scene{Packet: []int{}}, true}, {impl.Scene{}, impl.Scene{Noted: -1}, false}, {impl.Scene{}, impl.Scene{Packet: []int{0}}, false},
		{impl.Scene{Packet: []int{0, 1}, Noted: 1}, impl.Scene{Packet: []int{0, 1}, Noted: 1}, true}, {impl.Scene{Packet: []int{0, 1}, Noted: 1}, impl.Scene{Packet: []int{0, 1}}, false}, {impl.Scene{Packet: []int{0, 1}, Noted: 1}, impl.Scene{Packet: []int{1, 0}, Noted: 1}, false}, {impl.Scene{Packet: []int{0, 1}, Noted: 1}, impl.Scene{Packet: []int{0, -2}, Noted: 1}, false}, {impl.Scene{Packet: []int{0, 1}, Noted: 1}, impl.Scene{Packet: []int{0}, Noted: 1}, false},
		// Scenes that no trick has are compared in the same way.
		{impl.Scene{Packet: []int{99, 99}, Noted: 50}, impl.Scene{Packet: []int{99, 99}, Noted: 50}, true}, {impl.Scene{Packet: order(5000), Noted: math.MinInt64}, impl.Scene{Packet: order(5000), Noted: math.MinInt64}, true}, {impl.Scene{Packet: order(5000)}, impl.Scene{Packet: order(4999)}, false}, {impl.Scene{Noted: 1 << 32}, impl.Scene{}, false}, {impl.Scene{Packet: []int{1 << 32}}, impl.Scene{Packet: []int{0}}, false}, {impl.Scene{Packet: []int{math.MinInt64}}, impl.Scene{Packet: []int{math.MaxInt64}}, false},
	} {
		if impl.SameScene(c.a, c.b) != c.want || impl.SameScene(c.b, c.a) != c.want {
			t.Errorf("SameScene(%v, %v) = %t", c.a, c.b, !c.want)
		}
	}
	var scenes []impl.Scene
	for _, p := range listsOver([]int{0, 1, -1, 12}, 3) {
		for noted := -2; noted <= 1; noted++ {
			scenes = append(scenes, impl.Scene{Packet: p, Noted: noted})
		}
	}
	for i, a := range scenes {
		for j, b := range scenes {
			if got := impl.SameScene(a, impl.Scene{Packet: slices.Clone(b.Packet), Noted: b.Noted}); got != (i == j) {
				t.Errorf("SameScene(%v, %v) = %t", a, b, got)
			}
		}
	}
}

func TestP9AllFunctionsForAllClaims(t *testing.T) {
	eachTrick(checkedTricks(), func(from impl.Trick, runs []run) {
		for i, k := range claimsOf(from) {
			if len(runs) <= 100 || i%9 == 0 {
				wantChecked(t, k, runs)
			}
		}
	})
}

// All tricks with up to three steps on three cards, with steps of each kind.
func TestP9AllShortTricks(t *testing.T) {
	steps := []impl.Step{choiceStep(impl.ChNone), choiceStep(impl.ChCut), choiceStep(impl.ChRiffle), choiceStep(impl.ChPair), choiceStep(impl.ChPick), noteStep(0), noteStep(2), moveStep(impl.MvCut, 1), moveStep(impl.MvFlip, 2), moveStep(impl.MvMilk, 0)}
	var tricks []impl.Trick
	for i, indices := range listsOver(order(len(steps)), 3) {
		k := impl.Trick{Start: [][]int{{0, 1, 2}, {2, -1, 1}}[i%2]}
		for _, at := range indices {
			k.Steps = append(k.Steps, steps[at])
		}
		tricks = append(tricks, k)
	}
	eachTrick(tricks, func(from impl.Trick, runs []run) {
		for i, k := range claimsOf(from) {
			if len(runs) < 10 || i%4 == 0 {
				wantChecked(t, k, runs)
			}
		}
	})
}

func TestP9NothingIsCheckedForTricksThatAreNotValid(t *testing.T) {
	three := []int{0, 1, 2}
	wantNoCheck(t, impl.Trick{})
	for _, p := range slices.Concat(noPackets, spoiltPackets()) {
		wantNoCheck(t, impl.Trick{Start: p})
		wantNoCheck(t, impl.Trick{Start: p, Steps: []impl.Step{choiceStep(impl.ChCut), noteStep(0)}, Claim: impl.ClOrder})
	}
	for _, steps := range [][]impl.Step{{{}}, {noteStep(3)}, {noteStep(-1)}, {choiceStep(5)}, {choiceStep(-1)}, {moveStep(impl.MvCut, 4)}, {moveStep(0, 0)}, {{Kind: 4}}, {{Kind: impl.StMove, Move: impl.Move{Kind: impl.MvCut}, A: 1}}, {{Kind: impl.StChoice, Move: impl.Move{K: 1}}}, slices.Repeat([]impl.Step{noteStep(0)}, 13), make([]impl.Step, 5000), slices.Repeat([]impl.Step{choiceStep(impl.ChCut)}, 5000)} {
		wantNoCheck(t, impl.Trick{Start: three, Steps: steps})
		wantNoCheck(t, impl.Trick{Start: three, Steps: append([]impl.Step{choiceStep(impl.ChRiffle), noteStep(0)}, steps...), Claim: impl.ClNoted})
	}
	wantNoCheck(t, impl.Trick{Start: []int{3}, Steps: []impl.Step{choiceStep(impl.ChPair)}})
	wantNoCheck(t, impl.Trick{Start: order(8), Steps: []impl.Step{choiceStep(impl.ChRiffle)}})
	for _, claim := range [][3]int{{0, 1, 0}, {0, 0, 1}, {1, 0, 0}, {2, 4, 0}, {2, -1, 0}, {2, 1, 1}, {3, 3, 0}, {3, -1, 0}, {3, 0, 3}, {3, 0, -1}, {4, 1, 0}, {4, 0, 1}, {5, 0, 0}, {-1, 0, 0}, {1 << 32, 0, 0}} {
		wantNoCheck(t, withClaim(impl.Trick{Start: three, Steps: []impl.Step{choiceStep(impl.ChPick)}}, claim[0], claim[1], claim[2]))
	}
}

// Results share no memory with each other or with what they are made from.
func TestP9CheckedScenesAreNew(t *testing.T) {
	for n := 1; n <= 6; n++ {
		for i, from := range movePackets(n) {
			behind := append(slices.Clone(from), 97, 98, 99)
			before := slices.Clone(behind)
			steps := append(mixedSteps(n, i, 2, n+i), impl.Step{Kind: 99})
			stepsBefore := slices.Clone(steps)
			k := impl.Trick{Start: behind[:n], Steps: steps[:i]}
			runs := runsOf(impl.Trick{Start: from, Steps: stepsBefore[:i]})
			for _, k := range claimsOf(k) {
				for range 2 {
					wantChecked(t, k, runs)
					var lists [][]int
					scenes, _ := impl.AllScenes(k)
					for _, c := range scenes {
						lists = append(lists, c.Packet)
					}
					clear(scenes[:cap(scenes)])
					for range 2 {
						v, _ := impl.CheckTrick(k)
						lists = append(lists, v.Picks, v.Last.Packet)
					}
					spoil(t, "checked scenes", lists)
				}
				picks := append(slices.Clone(runs[0].picks), 77)
				last := append(slices.Clone(runs[0].end.Packet), 77)
				v := impl.Verdict{Code: impl.VdFails, Picks: picks[:len(picks)-1], Last: impl.Scene{Packet: last[:n], Noted: runs[0].end.Noted}}
				wantProved(t, k, v, !holds(k, runs[0].end))
				impl.SameScene(v.Last, impl.Scene{Packet: behind[:n]})
				if !slices.Equal(behind, before) || !slices.Equal(steps, stepsBefore) || !slices.Equal(picks, append(slices.Clone(runs[0].picks), 77)) || !slices.Equal(last, append(slices.Clone(runs[0].end.Packet), 77)) {
					t.Fatalf("%v, %v, %v and %v have become %v, %v, %v and %v", before, stepsBefore, runs[0].picks, runs[0].end, behind, steps, picks, last)
				}
			}
		}
	}
}

// What a trick ends in is the same at each call, whichever goroutine is the first one.
func TestP9ChecksAreTheSameEachTime(t *testing.T) {
	var large []impl.Trick
	for _, c := range largeTricks() {
		large = append(large, c.k)
	}
	for _, from := range append(mergingTricks(), large...) {
		for _, k := range []impl.Trick{from, withClaim(from, impl.ClOrder, 0, 0)} {
			scenes, ok := impl.AllScenes(k)
			v, _ := impl.CheckTrick(k)
			var group sync.WaitGroup
			for range 4 {
				group.Go(func() {
					again, okAgain := impl.AllScenes(k)
					vAgain, _ := impl.CheckTrick(k)
					if ok != okAgain || !slices.EqualFunc(scenes, again, sameScene) || !sameVerdict(v, vAgain) {
						t.Errorf("at the same time, %v ends in %d scenes with the verdict %v, not in %d with %v", k, len(again), vAgain, len(scenes), v)
					}
				})
			}
			group.Wait()
		}
	}
}

func TestP9ChecksLeaveNothingRunning(t *testing.T) {
	before := runtime.NumGoroutine()
	for _, c := range largeTricks() {
		for _, k := range []impl.Trick{c.k, withClaim(c.k, impl.ClOrder, 0, 0), withClaim(c.k, 9, 0, 0)} {
			v, _ := impl.CheckTrick(k)
			impl.AllScenes(k)
			impl.IsProved(k, v)
			impl.CountEnds(k)
			impl.HoldingEnds(k)
		}
	}
	// A worker that is done may still be about to end.
	for range 2000 {
		if runtime.NumGoroutine() <= before {
			return
		}
		time.Sleep(time.Millisecond)
	}
	t.Errorf("%d goroutines have become %d", before, runtime.NumGoroutine())
}
