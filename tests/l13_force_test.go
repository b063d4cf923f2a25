package tests

import (
	"fmt"
	"math"
	"slices"
	"strings"
	"sync"
	"testing"

	"loop.example/g00846/impl"
)

// forceOf returns the force that a text describes: nodes separated by spaces, each by its indices separated by commas, or
// by = and the object with which it ends.
func forceOf(t *testing.T, text string) []impl.Node {
	t.Helper()
	number := func(word string) int {
		n, ok := impl.ParseInt(word)
		if !ok {
			t.Fatalf("%q is no number", word)
		}
		return n
	}
	var list []impl.Node
	for i, word := range strings.Fields(text) {
		node := impl.Node{Say: fmt.Sprint("node ", i)}
		if object, found := strings.CutPrefix(word, "="); found {
			node.End = number(object)
		} else {
			for _, index := range strings.Split(word, ",") {
				node.Next = append(node.Next, number(index))
			}
		}
		list = append(list, node)
	}
	return list
}

// sameForces reports whether two lists of nodes are equal.
func sameForces(a []impl.Node, b []impl.Node) bool {
	return slices.EqualFunc(a, b, func(x, y impl.Node) bool {
		return x.Say == y.Say && x.End == y.End && slices.Equal(x.Next, y.Next)
	})
}

// copiedForce returns a list of nodes that shares no memory with another.
func copiedForce(list []impl.Node) []impl.Node {
	var other []impl.Node
	for _, node := range list {
		other = append(other, impl.Node{Say: node.Say, Next: slices.Clone(node.Next), End: node.End})
	}
	return other
}

// forceOk reports whether a list of nodes is a force, by counting how often each node follows one.
func forceOk(list []impl.Node) bool {
	if len(list) < 1 || len(list) > 40 {
		return false
	}
	count := map[int]int{}
	for i, node := range list {
		for _, index := range node.Next {
			if index <= i {
				return false
			}
			count[index]++
		}
		if node.End < 0 || len(node.Next) > 0 && node.End != 0 {
			return false
		}
	}
	for i := 1; i < len(list); i++ {
		if count[i] != 1 {
			return false
		}
	}
	return len(count) == len(list)-1
}

// reached returns the index to which answers lead in a valid force, or -1 if one of them does not exist.
func reached(list []impl.Node, answers []int) int {
	at := 0
	for _, answer := range answers {
		if answer < 0 || answer >= len(list[at].Next) {
			return -1
		}
		at = list[at].Next[answer]
	}
	return at
}

// answerLists returns all lists of answers that exist in a valid force, shorter ones first.
func answerLists(list []impl.Node) [][]int {
	lists := [][]int{{}}
	for i := 0; i < len(lists); i++ {
		for answer := range list[reached(list, lists[i])].Next {
			lists = append(lists, append(slices.Clone(lists[i]), answer))
		}
	}
	return lists
}

// endLists returns those of the lists of answers that lead to an end, ordered by comparing them.
func endLists(list []impl.Node) [][]int {
	return inOrder(slices.DeleteFunc(answerLists(list), func(answers []int) bool { return len(list[reached(list, answers)].Next) > 0 }))
}

// treesOf returns all forces of n nodes, each with the object 0 at all its ends: the last node follows any of the others, at
// any place among those that follow it.
func treesOf(n int) [][]impl.Node {
	if n == 1 {
		return [][]impl.Node{{{}}}
	}
	var forces [][]impl.Node
	for _, force := range treesOf(n - 1) {
		for i, node := range force {
			for place := range len(node.Next) + 1 {
				longer := append(copiedForce(force), impl.Node{})
				longer[i].Next = slices.Insert(longer[i].Next, place, n-1)
				forces = append(forces, longer)
			}
		}
	}
	return forces
}

// withObjects returns the force whose ends, in the order of the nodes, have the objects, again and again.
func withObjects(force []impl.Node, objects []int) []impl.Node {
	force = copiedForce(force)
	ends := 0
	for i := range force {
		if len(force[i].Next) == 0 {
			force[i].End = objects[ends%len(objects)]
			ends++
		}
	}
	return force
}

// smallForces returns all forces of at most 4 nodes with each choice of the objects 0, 1 and 7, and all forces of 5 and 6
// nodes with some choices.
func smallForces() [][]impl.Node {
	var forces [][]impl.Node
	for n := 1; n <= 6; n++ {
		for i, force := range treesOf(n) {
			ends := 0
			for _, node := range force {
				if len(node.Next) == 0 {
					ends++
				}
			}
			if n > 4 {
				choices := [][]int{{0}, {3}, {3, 9}, {9, 3, 3}, {4, 4, 2}, {8, 6, 0}}
				forces = append(forces, withObjects(force, choices[i%6]), withObjects(force, choices[(i+1)%6]))
				continue
			}
			for _, objects := range listsOver([]int{0, 1, 7}, ends) {
				if len(objects) == ends {
					forces = append(forces, withObjects(force, objects))
				}
			}
		}
	}
	return forces
}

// longForces returns forces of n nodes: a chain, one question with all the ends, questions with two or three answers each,
// a chain with an end at each of its nodes, and some in which the nodes follow without such an order.
func longForces(n int) [][]impl.Node {
	rules := []func(i int) int{
		func(i int) int { return i - 1 },
		func(i int) int { return 0 },
		func(i int) int { return (i - 1) / 2 },
		func(i int) int { return (i - 1) / 3 },
		func(i int) int { return max(0, i-2) / 2 * 2 },
		func(i int) int { return i * 7 % 11 % i },
		func(i int) int { return i * i * 5 % 17 % i },
		func(i int) int { return i - 1 - i*3%5%i },
	}
	var forces [][]impl.Node
	for k, before := range rules {
		force := make([]impl.Node, n)
		for i := 1; i < n; i++ {
			next := &force[before(i)].Next
			*next = slices.Insert(*next, i*k%(len(*next)+1), i)
		}
		for _, objects := range [][]int{{0}, {5}, {math.MaxInt64}, {6, 6, 6, 6, 6, 6, 6, 5}, {40, 30, 20, 10}, {1 << 40, 3, 3}} {
			forces = append(forces, withObjects(force, objects))
		}
	}
	return forces
}

// validForces returns the forces above, and those of PairForce and FourForce.
func validForces() [][]impl.Node {
	forces := smallForces()
	for _, n := range []int{7, 12, 39, 40} {
		forces = append(forces, longForces(n)...)
	}
	return append(forces, pairOf([]int{4, 7}, 7), pairOf([]int{0, 99}, 0), fourOf(1), fourOf(0))
}

// pairOf returns the nodes that chapter 14 lists for two objects.
func pairOf(objects []int, wanted int) []impl.Node {
	nodes := []impl.Node{{Say: "point at one", Next: []int{1, 2}}, {Say: "put it away", End: wanted}, {Say: "put it away", End: wanted}}
	nodes[1+slices.Index(objects, wanted)].Say = "yours"
	return nodes
}

// fourOf returns the nodes that chapter 14 lists for four objects.
func fourOf(wanted int) []impl.Node {
	return []impl.Node{
		{Say: "take two", Next: []int{1, 2}}, {Say: "keep them, point at one", Next: []int{3, 4}}, {Say: "put them away, point at one", Next: []int{5, 6}},
		{Say: "yours", End: wanted}, {Say: "put it away", End: wanted}, {Say: "yours", End: wanted}, {Say: "put it away", End: wanted},
	}
}

// objectsOf returns objects to ask for: those of a force, those beside them, and some that are no object at all.
func objectsOf(list []impl.Node) []int {
	objects := []int{0, 1, 5, -1, math.MaxInt64, math.MinInt64}
	for _, node := range list {
		if len(node.Next) == 0 {
			objects = append(objects, node.End, node.End+1, -1-node.End, node.End+1<<32)
		}
	}
	slices.Sort(objects)
	return slices.Compact(objects)
}

// wantPlayed checks where answers lead in a valid force; if want is -1, one of them does not exist.
func wantPlayed(t *testing.T, list []impl.Node, answers []int, want int) {
	t.Helper()
	if got, ok := impl.PlayForce(list, answers); ok != (want >= 0) || got != max(want, 0) {
		t.Errorf("%v lead to %d, %t, not to %d, in %v", answers, got, ok, want, list)
	}
}

// wantForce checks what is asked of a valid force, from the lists of all answers.
func wantForce(t *testing.T, list []impl.Node) {
	t.Helper()
	if !impl.ForceOk(list) || !forceOk(list) {
		t.Fatalf("%v is not valid: ForceOk is %t", list, impl.ForceOk(list))
	}
	depth := 0
	var objects []int
	lists := endLists(list)
	for _, answers := range lists {
		depth = max(depth, len(answers))
		objects = append(objects, list[reached(list, answers)].End)
	}
	if got := impl.DepthOfForce(list); got != depth {
		t.Errorf("the depth of %v is %d, want %d", list, got, depth)
	}
	sorted := slices.Compact(slices.Sorted(slices.Values(objects)))
	if got := impl.EndsOf(list); !slices.Equal(got, sorted) {
		t.Errorf("the ends of %v are %v, want %v", list, got, sorted)
	}
	for _, object := range objectsOf(list) {
		at := slices.IndexFunc(objects, func(x int) bool { return x != object })
		if got := impl.IsForced(list, object); got != (at < 0) {
			t.Errorf("%d is forced: %t, in %v", object, got, list)
		}
		var want []int
		if at >= 0 {
			want = lists[at]
		}
		answers, ok := impl.AnswersTo(list, object)
		wantPerm(t, fmt.Sprintf("the way to another object than %d in %v", object, list), answers, ok, want)
	}
}

// wantNoForce checks what is asked of a list of nodes that is not valid.
func wantNoForce(t *testing.T, list []impl.Node) {
	t.Helper()
	if impl.ForceOk(list) || forceOk(list) {
		t.Fatalf("%v is valid: ForceOk is %t", list, impl.ForceOk(list))
	}
	if got := impl.EndsOf(list); len(got) > 0 {
		t.Errorf("the ends of %v are %v", list, got)
	}
	if got := impl.DepthOfForce(list); got != -1 {
		t.Errorf("the depth of %v is %d", list, got)
	}
	for _, object := range []int{0, 1, 5, 7, -1} {
		if impl.IsForced(list, object) {
			t.Errorf("%d is forced in %v", object, list)
		}
		if answers, ok := impl.AnswersTo(list, object); ok || len(answers) > 0 {
			t.Errorf("%v, %t leads to another object than %d in %v", answers, ok, object, list)
		}
	}
	for _, answers := range [][]int{nil, {}, {0}, {1}, {0, 0}, {-1}} {
		if at, ok := impl.PlayForce(list, answers); ok || at != 0 {
			t.Errorf("%v lead to %d, %t in %v", answers, at, ok, list)
		}
	}
}

func TestP7ForcedObjectIsTheOnlyEnd(t *testing.T) {
	forced, free := 0, 0
	for _, list := range validForces() {
		lists := endLists(list)
		for _, object := range objectsOf(list) {
			least, ok := impl.AnswersTo(list, object)
			if ok == impl.IsForced(list, object) {
				t.Fatalf("%d is forced: %t, but %v, %t leads to another object in %v", object, !ok, least, ok, list)
			}
			if !ok {
				forced++
			} else {
				free++
				at, played := impl.PlayForce(list, least)
				if !played || len(list[at].Next) > 0 || list[at].End == object {
					t.Errorf("%v leads to %d, %t, so not to another end than %d in %v", least, at, played, object, list)
				}
			}
			// All that come before the least list lead to the object; if it is forced, these are all lists.
			for _, answers := range lists {
				if at, played := impl.PlayForce(list, answers); ok && !firstInOrder(answers, least) {
					break
				} else if !played || list[at].End != object {
					t.Errorf("%v leads to %d, %t, and not to %d, in %v", answers, at, played, object, list)
				}
			}
		}
	}
	if forced < 500 || free < 5000 {
		t.Errorf("only %d objects are forced, and %d are not", forced, free)
	}
}

func TestP7PairForceHasOneEnd(t *testing.T) {
	for a := range 100 {
		for b := range 100 {
			if a == b {
				continue
			}
			for place, wanted := range []int{a, b} {
				force, ok := impl.PairForce([]int{a, b}, wanted)
				if !ok || !impl.ForceOk(force) || !impl.IsForced(force, wanted) || !slices.Equal(impl.EndsOf(force), []int{wanted}) || impl.DepthOfForce(force) != 1 {
					t.Fatalf("PairForce of %d and %d for %d is %v, %t", a, b, wanted, force, ok)
				}
				for answer := range 2 {
					at, played := impl.PlayForce(force, []int{answer})
					if !played || at != answer+1 || force[at].End != wanted || (force[at].Say == "yours") != (answer == place) {
						t.Errorf("who points at object %d of %d and %d comes to %d, %t in %v", answer, a, b, at, played, force)
					}
				}
				if answers, other := impl.AnswersTo(force, wanted); other || len(answers) > 0 {
					t.Errorf("%v leads to another object in %v", answers, force)
				}
			}
		}
	}
}

func TestP7FourForceHasOneEnd(t *testing.T) {
	for _, objects := range [][]int{{4, 7, 1, 2}, {0, 1, 2, 3}, {99, 98, 97, 96}, {0, 99, 50, 49}, {13, 0, 26, 39}} {
		for _, a := range permsOf(4) {
			placed := performed(objects, a)
			for _, wanted := range objects {
				force, ok := impl.FourForce(placed, wanted)
				if !ok || !impl.ForceOk(force) || !impl.IsForced(force, wanted) || !slices.Equal(impl.EndsOf(force), []int{wanted}) || impl.DepthOfForce(force) != 2 {
					t.Fatalf("FourForce of %v for %d is %v, %t", placed, wanted, force, ok)
				}
				for _, answers := range [][]int{{0, 0}, {0, 1}, {1, 0}, {1, 1}} {
					at, played := impl.PlayForce(force, answers)
					if !played || at != 3+2*answers[0]+answers[1] || force[at].End != wanted || (force[at].Say == "yours") != (answers[1] == 0) {
						t.Errorf("%v lead to %d, %t in %v", answers, at, played, force)
					}
				}
				if answers, other := impl.AnswersTo(force, wanted); other || len(answers) > 0 {
					t.Errorf("%v leads to another object in %v", answers, force)
				}
			}
		}
	}
}

func TestP9Forces(t *testing.T) {
	for _, c := range []struct {
		force  string
		ends   []int
		depth  int
		object int
		least  string
	}{
		{"=0", []int{0}, 0, 0, "none"}, {"=0", []int{0}, 0, 1, ""}, {"=0", []int{0}, 0, -1, ""}, {"=5", []int{5}, 0, 5, "none"}, {"=5", []int{5}, 0, 0, ""}, {"=9223372036854775807", []int{math.MaxInt64}, 0, -1, ""},
		{"1 =5", []int{5}, 1, 5, "none"}, {"1 =5", []int{5}, 1, 4, "0"}, {"1 2 3 =5", []int{5}, 3, 5, "none"}, {"1 2 3 =5", []int{5}, 3, 0, "000"},
		{"1,2 =5 3 =6", []int{5, 6}, 2, 5, "10"}, {"1,2 =5 3 =6", []int{5, 6}, 2, 6, "0"}, {"1,2 =5 3 =6", []int{5, 6}, 2, 7, "0"}, {"1,2 =5 3 =5", []int{5}, 2, 5, "none"}, {"1,2 =5 3 =5", []int{5}, 2, 6, "0"},
		// The index of an answer in Next counts, and not the index of the node.
		{"2,1 =5 =6", []int{5, 6}, 1, 5, "0"}, {"2,1 =5 =6", []int{5, 6}, 1, 6, "1"}, {"2,1 =5 3 =6", []int{5, 6}, 2, 5, "00"}, {"2,1 =5 3 =6", []int{5, 6}, 2, 6, "1"}, {"3,1,2 =2 =1 =0", []int{0, 1, 2}, 1, 0, "1"}, {"3,1,2 =2 =1 =0", []int{0, 1, 2}, 1, 2, "0"},
		// The least list is not the shortest one.
		{"1,4 2 3 =8 =9", []int{8, 9}, 3, 7, "000"}, {"1,4 2 3 =8 =9", []int{8, 9}, 3, 9, "000"}, {"1,4 2 3 =8 =9", []int{8, 9}, 3, 8, "1"}, {"1,3,2 4,5 =9 =7 =7 6,7 =7 =8", []int{7, 8, 9}, 3, 7, "011"},
		{"1,2 3,4 5,6 =1 =1 =1 =2", []int{1, 2}, 2, 1, "11"}, {"1,2 3,4 5,6 =1 =1 =1 =2", []int{1, 2}, 2, 2, "00"}, {"2,1 3,4 6,5 =30 =20 =10 =0", []int{0, 10, 20, 30}, 2, 0, "01"}, {"2,1 3,4 6,5 =30 =20 =10 =0", []int{0, 10, 20, 30}, 2, 10, "00"},
		{"1,2,3,4 =3 =3 =3 =3", []int{3}, 1, 3, "none"}, {"1,2,3,4 =3 =3 =2 =3", []int{2, 3}, 1, 3, "2"}, {"1,2,3,4 =3 =3 =2 =4", []int{2, 3, 4}, 1, 3, "2"}, {"1,2,3,4 =3 =0 =0 =0", []int{0, 3}, 1, 3, "1"},
	} {
		list := forceOf(t, c.force)
		wantForce(t, list)
		if got := impl.EndsOf(list); !slices.Equal(got, c.ends) {
			t.Errorf("the ends of %s are %v", c.force, got)
		}
		if got := impl.DepthOfForce(list); got != c.depth {
			t.Errorf("the depth of %s is %d", c.force, got)
		}
		if got := impl.IsForced(list, c.object); got != (c.least == "none") {
			t.Errorf("%d is forced: %t, in %s", c.object, got, c.force)
		}
		answers, ok := impl.AnswersTo(list, c.object)
		if c.least == "none" {
			wantPerm(t, "the answers in "+c.force, answers, ok, nil)
		} else {
			wantPerm(t, "the answers in "+c.force, answers, ok, append([]int{}, colorsOf(c.least)...))
		}
	}
}

func TestP9AllForces(t *testing.T) {
	counts := map[int]int{}
	for _, list := range validForces() {
		wantForce(t, list)
		counts[len(list)]++
	}
	// Of 3 nodes, there are two trees with two ends and one with one end; and there are two forces of PairForce.
	if counts[1] != 3 || counts[2] != 3 || counts[3] != 2*9+3+2 || counts[40] != 48 {
		t.Errorf("so many forces are tried, by the number of their nodes: %v", counts)
	}
}

func TestP9ForceOk(t *testing.T) {
	for _, text := range []string{"=0", "=7", "1 =0", "1,2 =5 3 =6", "2,1 =0 =0", "1 2 3 4 =1", "1,4 2,3 =0 =0 =0", "3,2,1 =0 =0 4 =0"} {
		wantForce(t, forceOf(t, text))
	}
	for _, text := range []string{
		// An End below 0.
		"=-1", "1 =-1", "1,2 =0 =-9223372036854775808",
		// An index that is not greater than the node's own, or out of range.
		"0", "-1", "1", "0 =0", "-1 =0", "2 =0", "1,0 =0", "0,1 =0", "1,-1 =0", "1,2 =0", "1 1", "1 0", "1 2", "1 -1", "2 =0 1", "1 2 0", "1 2 1", "1 2 2", "1 2 3", "1 3 =0", "3,1 2 =0", "1 9223372036854775807 =0", "1 -9223372036854775808 =0", "4294967297 =0", "1,18 =0", "3 2,1",
		// A node that occurs twice or never.
		"1,1 =0", "1,1 =0 =0", "1,2 2 =0", "1,2,1 =0 =0", "2,2 =0 =0", "1,2,2 =0 =0", "=0 =0", "1 =0 =0", "2 =0 =0", "=0 2 =0", "1,2 3 3 =0", "1,3 2,3 =0 =0", "=0 2,3 =0 =0", "1 =0 3 =0",
	} {
		wantNoForce(t, forceOf(t, text))
	}
	for _, list := range [][]impl.Node{
		// No nodes.
		nil, {}, make([]impl.Node, 0, 9),
		// An End other than 0 at a node with Next.
		{{Next: []int{1}, End: 1}, {}}, {{Next: []int{1}, End: -1}, {}}, {{Next: []int{1}, End: math.MaxInt64}, {}}, {{Next: []int{1}, End: math.MinInt64}, {}},
		{{Next: []int{1}}, {Next: []int{2}, End: 5}, {End: 5}}, {{Next: []int{1, 2}, End: 5}, {End: 5}, {End: 5}},
	} {
		wantNoForce(t, list)
	}
}

func TestP9ForceOkOfManyLists(t *testing.T) {
	nodes := func(elements []int, ends ...int) []impl.Node {
		var list []impl.Node
		for _, next := range listsOver(elements, 2) {
			for _, end := range ends {
				list = append(list, impl.Node{Next: next, End: end})
			}
		}
		return list
	}
	valid, lists := 0, 0
	check := func(list ...impl.Node) {
		lists++
		want := forceOk(list)
		if want {
			valid++
			wantForce(t, list)
		} else if lists%101 == 0 {
			wantNoForce(t, list)
		}
		if got := impl.ForceOk(list); got != want {
			t.Errorf("ForceOk(%v) = %t", list, got)
		}
	}
	many := nodes([]int{-1, 0, 1, 2, 3, math.MaxInt64, math.MinInt64}, -1, 0, 1, math.MaxInt64, math.MinInt64)
	for _, a := range many {
		check(a)
		for _, b := range many {
			check(a, b)
		}
	}
	few := nodes([]int{0, 1, 2, 3}, -1, 0, 1)
	for _, a := range few {
		for _, b := range few {
			for _, c := range few {
				check(a, b, c)
			}
		}
	}
	// Of 1 and 2 nodes, there is one tree with one end, with 3 objects; of 3 nodes two with two ends and one with one, with 2.
	if valid != 3+3+2*4+2 {
		t.Errorf("%d of %d lists are valid", valid, lists)
	}
}

func TestP9SpoiltForces(t *testing.T) {
	forces := longForces(12)
	for force := range slices.Chunk(longForces(40), 6) {
		forces = append(forces, force[0])
	}
	for n := 1; n <= 4; n++ {
		for _, force := range treesOf(n) {
			forces = append(forces, withObjects(force, []int{0}), withObjects(force, []int{5, 7}))
		}
	}
	for _, force := range forces {
		n := len(force)
		change := func(i int, to impl.Node) {
			bad := copiedForce(force)
			bad[i] = to
			wantNoForce(t, bad)
		}
		for i, node := range force {
			for _, end := range []int{-1, -2, -1 << 32, math.MinInt64} {
				change(i, impl.Node{Next: node.Next, End: end})
			}
			if len(node.Next) > 0 {
				for _, end := range []int{1, 5, 1 << 32, math.MaxInt64} {
					change(i, impl.Node{Next: node.Next, End: end})
				}
			}
			// One index more, or another one, is always out of range, not greater than the node's own, or there already.
			for _, index := range []int{-1, 0, i - 1, i, i + 1, n - 1, n, n + 1, 64, 1 << 32, 1<<32 + i + 1, math.MaxInt64, math.MinInt64, math.MinInt64 + i + 1} {
				change(i, impl.Node{Next: append(slices.Clone(node.Next), index)})
				change(i, impl.Node{Next: append([]int{index}, node.Next...)})
				for place, old := range node.Next {
					if index != old {
						next := slices.Clone(node.Next)
						next[place] = index
						change(i, impl.Node{Next: next})
					}
				}
			}
			for place := range node.Next {
				change(i, impl.Node{Next: slices.Delete(slices.Clone(node.Next), place, place+1)})
			}
		}
		wantNoForce(t, append(copiedForce(force), impl.Node{}))
		wantNoForce(t, append([]impl.Node{{}}, force...))
		wantNoForce(t, slices.Concat(force, force))
		if n > 1 {
			wantNoForce(t, force[:n-1])
		}
	}
}

func TestP9ForcesOfManyNodes(t *testing.T) {
	for n := 1; n <= 45; n++ {
		for _, force := range longForces(n) {
			if n <= 40 {
				wantForce(t, force)
			} else {
				wantNoForce(t, force)
			}
		}
	}
	chain := longForces(40)[0]
	if got := impl.DepthOfForce(chain); got != 39 {
		t.Errorf("the depth of 40 nodes with one successor each is %d", got)
	}
	answers, ok := impl.AnswersTo(chain, 1)
	wantPerm(t, "the only list of answers", answers, ok, repeated(0, 39))
	wantPlayed(t, chain, repeated(0, 39), 39)
	wantPlayed(t, chain, repeated(0, 38), 38)
	wantPlayed(t, chain, repeated(0, 40), -1)
	wantPlayed(t, chain, repeated(0, 5000), -1)
	for _, n := range []int{64, 255, 256, 257, 5000} {
		wantNoForce(t, longForces(n)[0])
		wantNoForce(t, longForces(n)[1])
		wantNoForce(t, make([]impl.Node, n))
	}
	wantNoForce(t, []impl.Node{{Next: repeated(1, 5000)}, {}})
	wantNoForce(t, []impl.Node{{Next: ascending(1, 5000, 1)}, {}})
	wantNoForce(t, []impl.Node{{Next: repeated(0, 5000)}})
}

func TestP9PlayForce(t *testing.T) {
	list := forceOf(t, "2,1 =5 4,3,5 =6 6 =7 =8")
	for _, c := range []struct {
		answers []int
		want    int
	}{
		// Answers that stop before an end, and no answers at all.
		{nil, 0}, {[]int{}, 0}, {[]int{0}, 2}, {[]int{0, 0}, 4},
		{[]int{1}, 1}, {[]int{0, 0, 0}, 6}, {[]int{0, 1}, 3}, {[]int{0, 2}, 5},
		{[]int{-1}, -1}, {[]int{2}, -1}, {[]int{math.MaxInt64}, -1}, {[]int{math.MinInt64}, -1}, {[]int{1 << 32}, -1}, {[]int{0, 3}, -1}, {[]int{0, -1}, -1}, {[]int{0, -3}, -1}, {[]int{0, 0, 1}, -1}, {[]int{0, 0, -1}, -1},
		// An answer at an end.
		{[]int{1, 0}, -1}, {[]int{1, -1}, -1}, {[]int{0, 0, 0, 0}, -1}, {[]int{0, 1, 0}, -1}, {[]int{1, 0, 0}, -1},
		// A later answer that exists does not mend one that does not.
		{[]int{2, 0}, -1}, {[]int{-1, 0, 0}, -1}, {[]int{0, 3, 0}, -1}, {[]int{3, 1}, -1},
	} {
		wantPlayed(t, list, c.answers, c.want)
	}
	one := forceOf(t, "=5")
	wantPlayed(t, one, nil, 0)
	for _, answer := range []int{0, 1, 5, -1, math.MaxInt64, math.MinInt64} {
		wantPlayed(t, one, []int{answer}, -1)
	}
}

func TestP9PlayForceByAllAnswers(t *testing.T) {
	for _, list := range validForces() {
		for _, answers := range answerLists(list) {
			at := reached(list, answers)
			wantPlayed(t, list, answers, at)
			for _, answer := range []int{-1, len(list[at].Next), len(list[at].Next) + 1, 1 << 32, -1 << 32, math.MaxInt64, math.MinInt64} {
				bad := append(slices.Clone(answers), answer)
				wantPlayed(t, list, bad, -1)
				wantPlayed(t, list, append(bad, 0), -1)
				for i := range answers {
					bad := slices.Clone(answers)
					bad[i] = max(answer, 40)
					wantPlayed(t, list, bad, -1)
					bad[i] = min(answer, -1)
					wantPlayed(t, list, bad, -1)
				}
			}
		}
	}
	for _, list := range longForces(4)[:6] {
		for _, answers := range listsOver([]int{-1, 0, 1, 2, 3}, 5) {
			wantPlayed(t, list, answers, reached(list, answers))
		}
	}
}

func TestP9WhatIsSaidMayBeAnything(t *testing.T) {
	for _, say := range []string{"", "yours", "\xff\x00\n", "\u00e9", strings.Repeat("x", 5000)} {
		list := forceOf(t, "2,1 =5 3 =6")
		for i := range list {
			list[i].Say = say
		}
		wantForce(t, list)
	}
	for _, next := range [][]int{nil, {}, make([]int, 0, 3)} {
		wantForce(t, []impl.Node{{Next: next, End: 3}})
		wantForce(t, []impl.Node{{Next: []int{1, 2}}, {Next: next, End: 3}, {Next: next, End: 4}})
	}
}

// wantMade checks the two results of a function that makes a force; if it makes none, want is nil.
func wantMade(t *testing.T, of string, got []impl.Node, ok bool, want []impl.Node) {
	t.Helper()
	if ok != (want != nil) || !sameForces(got, want) {
		t.Errorf("%s is %v, %t; want %v", of, got, ok, want)
	}
}

// objectLists returns lists of objects, valid ones and others, to be tried with wantedObjects.
func objectLists() [][]int {
	lists := slices.Concat(listsOver([]int{0, 1, 50, 98, 99, 100, -1}, 4), listsOver([]int{4, 7, 99, math.MaxInt64, math.MinInt64, 1 << 32}, 4))
	for _, n := range []int{1, 2, 3, 4, 5, 6, 8, 100, 5000} {
		lists = append(lists, order(n), repeated(0, n), ascending(1, n, 1), ascending(99, 99+n, 1))
	}
	return lists
}

var wantedObjects = []int{0, 1, 2, 4, 7, 50, 98, 99, 100, -1, -2, math.MaxInt64, math.MinInt64, 1 << 32}

// objectsOk reports whether a list has n different objects from 0 to 99, the wanted one among them.
func objectsOk(objects []int, n int, wanted int) bool {
	seen := map[int]bool{}
	for _, object := range objects {
		if object >= 0 && object <= 99 {
			seen[object] = true
		}
	}
	return len(objects) == n && len(seen) == n && seen[wanted]
}

func TestP9PairForce(t *testing.T) {
	made := 0
	for _, objects := range objectLists() {
		for _, wanted := range wantedObjects {
			var want []impl.Node
			if objectsOk(objects, 2, wanted) {
				made++
				want = pairOf(objects, wanted)
			}
			got, ok := impl.PairForce(objects, wanted)
			wantMade(t, fmt.Sprintf("PairForce(%v, %d)", objects[:min(len(objects), 9)], wanted), got, ok, want)
		}
	}
	if made < 2*20 {
		t.Errorf("only %d forces are made", made)
	}
	got, ok := impl.PairForce([]int{4, 7}, 7)
	wantMade(t, "the force for the second object", got, ok, []impl.Node{{Say: "point at one", Next: []int{1, 2}}, {Say: "put it away", End: 7}, {Say: "yours", End: 7}})
	got, ok = impl.PairForce([]int{7, 4}, 7)
	wantMade(t, "the force for the first object", got, ok, []impl.Node{{Say: "point at one", Next: []int{1, 2}}, {Say: "yours", End: 7}, {Say: "put it away", End: 7}})
	got, ok = impl.PairForce([]int{0, 99}, 0)
	wantMade(t, "the force for the object 0", got, ok, []impl.Node{{Say: "point at one", Next: []int{1, 2}}, {Say: "yours"}, {Say: "put it away"}})
}

func TestP9FourForce(t *testing.T) {
	made := 0
	for _, objects := range objectLists() {
		for _, wanted := range wantedObjects {
			var want []impl.Node
			if objectsOk(objects, 4, wanted) {
				made++
				want = fourOf(wanted)
			}
			got, ok := impl.FourForce(objects, wanted)
			wantMade(t, fmt.Sprintf("FourForce(%v, %d)", objects[:min(len(objects), 9)], wanted), got, ok, want)
		}
	}
	if made < 4*120 {
		t.Errorf("only %d forces are made", made)
	}
	for _, objects := range [][]int{{9, 4, 7, 1}, {4, 9, 7, 1}, {4, 7, 9, 1}, {4, 7, 1, 9}} {
		got, ok := impl.FourForce(objects, 9)
		wantMade(t, fmt.Sprint("the force for 9 of ", objects), got, ok, fourOf(9))
	}
}

func TestP9ForcesNeedTheirObjects(t *testing.T) {
	for _, c := range []struct {
		objects []int
		wanted  int
	}{
		{nil, 0}, {[]int{4}, 4}, {[]int{4, 4}, 4}, {[]int{4, 7}, 5}, {[]int{4, 7}, -1}, {[]int{4, 7, 1}, 4}, {[]int{4, 7, 4}, 4}, {[]int{-1, 7}, 7}, {[]int{-1, 7}, -1}, {[]int{4, 100}, 4}, {[]int{4, 100}, 100}, {[]int{4, math.MaxInt64}, 4}, {[]int{math.MinInt64, 4}, 4},
		{[]int{4, 7, 1, 2}, 3}, {[]int{4, 7, 1, 2}, -1}, {[]int{4, 4, 1, 2}, 4}, {[]int{4, 7, 1, 4}, 4}, {[]int{4, 7, 7, 2}, 4}, {[]int{4, 7, 1, 1}, 7}, {[]int{4, 7, 1, 100}, 4}, {[]int{4, 7, 1, 100}, 100}, {[]int{-1, 7, 1, 2}, 7}, {[]int{-1, 7, 1, 2}, -1}, {[]int{4, 7, 1, 2, 3}, 4}, {[]int{4, 7, 1, 2, 4}, 4}, {[]int{0, 0, 0, 0}, 0}, {[]int{0, 0, 0, 0, 0, 0}, 0},
	} {
		pair, ok := impl.PairForce(c.objects, c.wanted)
		wantMade(t, fmt.Sprintf("PairForce(%v, %d)", c.objects, c.wanted), pair, ok, nil)
		four, ok := impl.FourForce(c.objects, c.wanted)
		wantMade(t, fmt.Sprintf("FourForce(%v, %d)", c.objects, c.wanted), four, ok, nil)
	}
	// What is enough for one of the two forces is not for the other.
	pair, ok := impl.PairForce([]int{4, 7, 1, 2}, 4)
	wantMade(t, "PairForce of four objects", pair, ok, nil)
	four, ok := impl.FourForce([]int{4, 7}, 4)
	wantMade(t, "FourForce of two objects", four, ok, nil)
}

func TestP9ForcesAreNew(t *testing.T) {
	for range 3 {
		pair, ok := impl.PairForce([]int{4, 7}, 4)
		wantMade(t, "PairForce of 4 and 7 for 4", pair, ok, pairOf([]int{4, 7}, 4))
		four, ok := impl.FourForce([]int{4, 7, 1, 2}, 1)
		wantMade(t, "FourForce of 4, 7, 1 and 2 for 1", four, ok, fourOf(1))
		var results [][]int
		for _, node := range slices.Concat(pair, four) {
			results = append(results, node.Next)
		}
		list := forceOf(t, "1,2 3,4 5,6 =9 =9 =9 =2")
		for _, object := range []int{9, 2, 5} {
			answers, _ := impl.AnswersTo(list, object)
			results = append(results, impl.EndsOf(list), answers)
		}
		if want := [][]int{{2, 9}, {1, 1}, {2, 9}, {0, 0}, {2, 9}, {0, 0}}; !sameLists(results[10:], want) {
			t.Fatalf("the ends and the answers are %v, want %v", results[10:], want)
		}
		spoil(t, "the results for forces", results)
		for _, force := range [][]impl.Node{pair, four} {
			for i := range force {
				force[i] = impl.Node{Say: "x", End: 77}
			}
		}
		if !sameForces(list, forceOf(t, "1,2 3,4 5,6 =9 =9 =9 =2")) {
			t.Fatalf("the force has become %v", list)
		}
	}
}

func TestP9ForcesAreNotChanged(t *testing.T) {
	forces := append(longForces(7), longForces(41)...)
	for _, text := range []string{"1,2 =5 3 =6", "2,1 =5 3 =5", "1 =-1", "2,1,2 =0 =0", "2 =0 1", "=4"} {
		forces = append(forces, forceOf(t, text))
	}
	for _, from := range forces {
		// Behind the nodes and the indices, there are more elements that are none of them.
		list := append(copiedForce(from), impl.Node{Say: "behind", Next: []int{96}, End: 95}, impl.Node{End: 94})
		for i := range list {
			list[i].Next = append(list[i].Next, 97, 98, 99)[:len(list[i].Next)]
		}
		whole := func() string {
			text := fmt.Sprint(list)
			for _, node := range list {
				text += fmt.Sprint(node.Next[:cap(node.Next)])
			}
			return text
		}
		answers := append([]int{0, 0}, 97, 98)[:2]
		objects := append([]int{7, 4, 1, 2}, 97, 98)
		before := whole()
		nodes := list[:len(from)]
		impl.ForceOk(nodes)
		impl.EndsOf(nodes)
		impl.DepthOfForce(nodes)
		for _, object := range []int{4, 5, 6} {
			impl.IsForced(nodes, object)
			impl.AnswersTo(nodes, object)
		}
		impl.PlayForce(nodes, answers)
		for _, wanted := range []int{7, 4, 2, 9} {
			impl.PairForce(objects[:2], wanted)
			impl.FourForce(objects[:4], wanted)
		}
		if after := whole(); after != before || !slices.Equal(answers[:4], []int{0, 0, 97, 98}) || !slices.Equal(objects, []int{7, 4, 1, 2, 97, 98}) {
			t.Fatalf("%s has become %s, and the answers and objects %v and %v", before, after, answers[:4], objects)
		}
	}
}

func TestP9ForcesAtTheSameTime(t *testing.T) {
	lists := longForces(20)
	var group sync.WaitGroup
	for worker := range 8 {
		group.Go(func() {
			for i := range lists {
				wantForce(t, lists[(worker*5+i)%len(lists)])
				wanted := (worker + i) % 4
				four, ok := impl.FourForce(order(4), wanted)
				wantMade(t, "FourForce at the same time", four, ok, fourOf(wanted))
			}
		})
	}
	group.Wait()
}
