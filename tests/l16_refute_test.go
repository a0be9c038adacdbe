package tests

import (
	"math"
	"math/rand"
	"reflect"
	"slices"
	"strconv"
	"strings"
	"testing"

	"loop.example/g00554/impl"
)

func TestMaxCases(t *testing.T) {
	if impl.MaxCases != 400 {
		t.Errorf("MaxCases is %d", impl.MaxCases)
	}
}

// casesOf reads cases as they are written in these tests: ! of a clash, else an Atom, a : and the places of its Yes and No with a , between.
func casesOf(text string) []impl.Case {
	var list []impl.Case
	for _, word := range strings.Fields(text) {
		atom, places, _ := strings.Cut(word, ":")
		yes, no, _ := strings.Cut(places, ",")
		var c impl.Case
		c.Atom, _ = strconv.Atoi(atom)
		c.Yes, _ = strconv.Atoi(yes)
		c.No, _ = strconv.Atoi(no)
		list = append(list, c)
	}
	return list
}

func casesText(list []impl.Case) string {
	words := make([]string, 0, len(list))
	for _, c := range list {
		word := "!"
		if c != (impl.Case{}) {
			word = strconv.Itoa(c.Atom) + ":" + strconv.Itoa(c.Yes) + "," + strconv.Itoa(c.No)
		}
		words = append(words, word)
	}
	return strings.Join(words, " ")
}

func checkRefutes(t *testing.T, name string, p impl.Prog, list []impl.Case, want bool) {
	t.Helper()
	if impl.Refutes(p, list) != want {
		t.Errorf("%s: Refutes(%+v, %q) is not %v", name, p, casesText(list), want)
	}
}

func checkRefuteUnder(t *testing.T, name string, p impl.Prog, v, order []int, want string) {
	t.Helper()
	if list, ok := impl.RefuteUnder(p, v, order); !ok || casesText(list) != want {
		t.Errorf("%s: RefuteUnder(%+v, %v, %v) = %q, %v, not %q", name, p, v, order, casesText(list), ok, want)
	}
}

func checkNoRefuteUnder(t *testing.T, name string, p impl.Prog, v, order []int) {
	t.Helper()
	if list, ok := impl.RefuteUnder(p, v, order); ok || len(list) != 0 {
		t.Errorf("%s: RefuteUnder(%+v, %v, %v) = %q, %v", name, p, v, order, casesText(list), ok)
	}
}

// checkRefute fails where another refutation is given, or another one of values that are all UnKnown, or where it is not one.
func checkRefute(t *testing.T, name string, p impl.Prog, order []int, want string) {
	t.Helper()
	list, ok := impl.Refute(p, order)
	if !ok || casesText(list) != want {
		t.Errorf("%s: Refute(%+v, %v) = %q, %v, not %q", name, p, order, casesText(list), ok, want)
	}
	checkRefuteUnder(t, name, p, times(p.Atoms, 0), order, want)
	checkRefutes(t, name, p, list, true)
}

func checkNoRefute(t *testing.T, name string, p impl.Prog, order []int) {
	t.Helper()
	if list, ok := impl.Refute(p, order); ok || len(list) != 0 {
		t.Errorf("%s: Refute(%+v, %v) = %q, %v", name, p, order, casesText(list), ok)
	}
	for n := range 14 {
		checkNoRefuteUnder(t, name, p, times(n, 0), order)
	}
}

// undecided is a program of n atoms without an answer: there is a clash just where the last of them is known.
func undecided(n int) impl.Prog {
	p := open(n)
	p.Rules = append(p.Rules, constraint(n), constraint(-n))
	return p
}

// undone is a program of n atoms without an answer: there is a clash just where all of them are known.
func undone(n int) impl.Prog {
	p := open(n)
	for num := range 1 << n {
		var lits []int
		for a := 1; a <= n; a++ {
			lits = append(lits, a*(2*(num>>(a-1)&1)-1))
		}
		p.Rules = append(p.Rules, constraint(lits...))
	}
	return p
}

// branching is a program whose refutation has just so many clashes, where its atoms are asked from the first on: with all of the first d known, d being as great as may be, there is a clash, but for as many of their sets as are lacking, where one atom more is asked.
func branching(clashes int) impl.Prog {
	d := 0
	for 2<<d <= clashes {
		d++
	}
	p := undecided(d + 1)
	if d == 0 {
		p.Rules = append(p.Rules, constraint())
		return p
	}
	all := 1 << d
	row := []impl.WLit{wl(d, all), wl(-d, all)}
	for a := 1; a <= d; a++ {
		row = append(row, wl(a, 1<<(d-a)))
	}
	p.Rules = append(p.Rules, weighed(nil, clashes, row...))
	return p
}

type refutesCase struct {
	name string
	list string
	want bool
}

func checkAllRefutes(t *testing.T, p impl.Prog, cases []refutesCase) {
	t.Helper()
	for _, c := range cases {
		checkRefutes(t, c.name, p, casesOf(c.list), c.want)
	}
}

// TestRefutesByPlaces: of a program that is refuted by many lists, as far as their places are right.
func TestRefutesByPlaces(t *testing.T) {
	checkAllRefutes(t, undecided(3), []refutesCase{
		{"no case at all", "", false},
		{"one clash alone", "!", false},
		{"one case that leads to nothing", "3:0,0", false},
		{"one case that leads past the end", "3:1,2", false},
		{"one case that leads to what is below 0", "3:-1,-2", false},
		{"a root and its two", "! ! 3:0,1", true},
		{"that of No first", "! ! 3:1,0", true},
		{"two roots of no case", "! !", false},
		{"more of them, each but the root once", "! ! 3:0,1 ! ! 3:3,4 1:2,5", true},

		{"the first is nobody's", "! ! ! 3:1,2", false},
		{"one between is nobody's", "! ! ! 3:0,2", false},
		{"the one ahead of the root is nobody's", "! ! ! 3:0,1", false},
		{"a whole part is nobody's", "! ! 3:0,1 ! ! 3:3,4", false},
		{"a whole part is nobody's, and a clash", "! ! 3:0,1 !", false},
		{"the root is a clash, others are nobody's", "! ! !", false},
		{"the root is a clash behind a whole one", "! ! 3:0,1 ! !", false},

		{"one is Yes and No of one case", "! 3:0,0", false},
		{"one is Yes and No of one case, another nobody's", "! ! 3:0,0", false},
		{"the other one is both, the first nobody's", "! ! 3:1,1", false},
		{"a whole part is Yes and No of one case", "! ! 3:0,1 1:2,2", false},
		{"one is Yes of two", "! ! 3:0,1 ! 3:0,3 1:2,4", false},
		{"one is No of two", "! ! 3:0,1 ! 3:3,1 1:2,4", false},
		{"one is No of one and Yes of another one", "! ! 3:0,1 ! 3:1,3 1:2,4", false},
		{"one is so twice, another nobody's", "! ! 3:0,1 ! ! 3:3,1 1:2,5", false},
		{"a part is so twice, another nobody's", "! ! 3:0,1 ! ! 3:3,4 1:2,2", false},
		{"both of one case are so twice", "! ! 3:0,1 3:0,1 1:2,3", false},
		{"one is so three times", "! ! 3:0,1 ! ! 3:0,0 1:2,5", false},

		{"the root as its own Yes", "! ! 3:2,1", false},
		{"the root as its own No", "! ! 3:0,2", false},
		{"the root as its own Yes, no other one nobody's", "! 3:1,0", false},
		{"the root as both of its own", "3:0,0", false},
		{"the root as another's Yes", "! ! 3:6,1 ! ! 3:3,4 1:2,5", false},
		{"the root as another's No", "! ! 3:0,1 ! ! 3:3,6 1:2,5", false},
		{"a case as its own Yes", "! ! 3:2,1 ! ! 3:3,4 1:2,5", false},
		{"a case as its own No", "! ! 3:0,1 ! ! 3:3,5 1:2,5", false},
		{"two that lead to one another", "! 3:2,0 3:1,0", false},
		{"a Yes behind its case", "! 3:0,2 !", false},
		{"a Yes behind its case, and the root right", "3:1,2 ! ! ! ! 3:3,4 1:0,5", false},
		{"a No behind its case, and the root right", "! 3:0,2 ! ! ! 3:3,4 1:1,5", false},
		{"the root at first", "3:1,2 ! !", false},
		{"a Yes just past the end", "! ! 3:3,1", false},
		{"a No just past the end", "! ! 3:0,3", false},
		{"a Yes far past the end", "! ! 3:400,1", false},
		{"a No far past the end", "! ! 3:0,4294967297", false},
		{"a Yes below 0", "! ! 3:-1,1", false},
		{"a No below 0", "! ! 3:0,-1", false},
		{"a Yes far below 0", "! ! 3:-4294967296,1", false},
		{"as many below 0 as the list has", "! ! 3:-3,-2", false},
	})
	for _, place := range []int{math.MinInt, math.MinInt + 1, math.MaxInt, math.MaxInt - 1} {
		checkRefutes(t, "a Yes at the ends of all numbers", undecided(3), []impl.Case{{}, {}, {Atom: 3, Yes: place, No: 1}}, false)
		checkRefutes(t, "a No at the ends of all numbers", undecided(3), []impl.Case{{}, {}, {Atom: 3, No: place}}, false)
	}
}

// TestRefutesInAnyOrder: that in which Refute gives them is one of many.
func TestRefutesInAnyOrder(t *testing.T) {
	checkAllRefutes(t, undecided(3), []refutesCase{
		{"Yes first", "! ! 3:0,1 ! ! 3:3,4 2:2,5", true},
		{"No first", "! ! 3:1,0 ! ! 3:4,3 2:5,2", true},
		{"No first in one part", "! ! 3:0,1 ! ! 3:4,3 2:5,2", true},
		{"all clashes first", "! ! ! ! 3:0,1 3:2,3 2:4,5", true},
		{"all clashes first, falling", "! ! ! ! 3:3,2 3:1,0 2:5,4", true},
		{"all clashes first, across", "! ! ! ! 3:0,2 3:3,1 2:5,4", true},
		{"one part within the other one", "! ! ! 3:1,2 ! 3:0,4 2:3,5", true},
		{"one part within the other one, No first", "! ! ! 3:2,1 ! 3:4,0 2:5,3", true},
		{"all clashes first, one nobody's", "! ! ! ! 3:0,1 3:2,2 2:4,5", false},
		{"one part alone goes on", "! ! 3:0,1 ! ! 3:3,4 ! ! 3:6,7 2:2,5 1:8,9", true},
		{"the other part alone goes on", "! ! 3:0,1 ! ! 3:3,4 ! ! 3:6,7 2:2,5 1:9,8", true},
		{"another atom in each part", "! ! 3:0,1 ! ! 3:3,4 2:2,5 ! ! 3:7,8 ! ! 3:10,11 2:9,12 1:6,13", true},
		{"the last atom first in one part", "! ! 3:0,1 ! ! 3:3,4 2:2,5 ! ! 3:7,8 1:6,9", true},
		{"the root is another atom", "! ! 3:0,1 ! ! 3:3,4 1:2,5 ! ! 3:7,8 2:6,9", true},
	})
}

// TestRefutesByClashes: a case tells of a clash just where there is one.
func TestRefutesByClashes(t *testing.T) {
	for _, c := range []struct {
		name string
		p    impl.Prog
		list string
		want bool
	}{
		{"a clash at once", rulesOf(2, constraint()), "!", true},
		{"a clash at once, of no atoms", rulesOf(0, constraint()), "!", true},
		{"a clash at once, of weights", rulesOf(0, weighed(nil, -1)), "!", true},
		{"a clash of facts", rulesOf(2, plain(1), plain(2, 1), constraint(1, 2)), "!", true},
		{"a clash of what may not come", rulesOf(2, choice([]int{1}), constraint(-2)), "!", true},
		{"a clash of what may not come, in a circle", rulesOf(2, append(loop(1, 2), constraint(-1))...), "!", true},
		{"a clash of what is assumed", impl.Prog{Atoms: 1, Assume: []int{1}}, "!", true},
		{"a clash of what is external", impl.Prog{Atoms: 1, Rules: []impl.Rule{constraint(1)}, Exts: []impl.Ext{{Atom: 1, V: 1}}}, "!", true},
		{"no clash, whole", rulesOf(2, plain(1)), "!", false},
		{"no clash, no atoms", impl.Prog{}, "!", false},
		{"no clash, nothing known", open(2), "!", false},
		{"no clash at once, though no answer", undecided(2), "!", false},
		{"no clash at once, what is external is open", impl.Prog{Atoms: 1, Exts: []impl.Ext{{Atom: 1}}, Assume: []int{1, -1}}, "!", false},
		{"a clash at once, and an atom is asked", rulesOf(2, choice([]int{1, 2}), constraint()), "! ! 1:0,1", false},
		{"a clash at once, and a known atom is asked", rulesOf(1, plain(1), constraint(1)), "! ! 1:0,1", false},
		{"no clash under either", undecided(2), "! ! 1:0,1", false},
		{"a clash under both", undecided(2), "! ! 2:0,1", true},
		{"a clash under Yes alone", rulesOf(1, choice([]int{1}), constraint(1)), "! ! 1:0,1", false},
		{"a clash under No alone", rulesOf(1, choice([]int{1}), constraint(-1)), "! ! 1:0,1", false},
		{"a clash under Yes alone, No goes on", rulesOf(2, choice([]int{1, 2}), constraint(1), constraint(-1, 2), constraint(-1, -2)), "! ! ! 2:1,2 1:0,3", true},
		{"the same the other way round", rulesOf(2, choice([]int{1, 2}), constraint(1), constraint(-1, 2), constraint(-1, -2)), "! ! ! 2:1,2 1:3,0", false},
		{"a clash under Yes, and Yes goes on", rulesOf(2, choice([]int{1, 2}), constraint(1), constraint(-1, 2), constraint(-1, -2)), "! ! 2:0,1 ! ! 2:3,4 1:2,5", false},
		{"a clash under No alone, Yes goes on", rulesOf(2, choice([]int{1, 2}), constraint(-1), constraint(1, 2), constraint(1, -2)), "! ! ! 2:1,2 1:3,0", true},
		{"the same the other way round, again", rulesOf(2, choice([]int{1, 2}), constraint(-1), constraint(1, 2), constraint(1, -2)), "! ! ! 2:1,2 1:0,3", false},
		{"No goes on below a clash", undecided(2), "! ! ! 1:1,2 2:0,3", false},
		{"Yes goes on below a clash", undecided(2), "! ! 1:0,1 ! 2:2,3", false},
		{"it ends where there is no clash yet, under Yes", undecided(2), "! ! ! 2:1,2 1:0,3", false},
		{"it ends where there is no clash yet, under No", undecided(2), "! ! 2:0,1 ! 1:2,3", false},
		{"the whole of it", undecided(2), "! ! 2:0,1 ! ! 2:3,4 1:2,5", true},
		{"values that are handed on", undone(2), "! ! 2:0,1 ! ! 2:3,4 1:2,5", true},
		{"values that are handed on, the other atom first", undone(2), "! ! 1:0,1 ! ! 1:3,4 2:2,5", true},
		{"values that are handed on, and are not enough", undone(3), "! ! 2:0,1 ! ! 2:3,4 1:2,5", false},
		{"values that are handed on twice", undone(3), "! ! 3:0,1 ! ! 3:3,4 2:2,5 ! ! 3:7,8 ! ! 3:10,11 2:9,12 1:6,13", true},
		{"another order in each part", undone(3), "! ! 3:0,1 ! ! 3:3,4 2:2,5 ! ! 2:7,8 ! ! 2:10,11 3:9,12 1:6,13", true},
		{"one short in one part", undone(3), "! ! 3:0,1 ! ! 3:3,4 2:2,5 ! ! 3:7,8 ! 2:9,10 1:6,11", false},
		{"with an answer", open(2), "! ! 2:0,1 ! ! 2:3,4 1:2,5", false},
		{"with one answer, all true", rulesOf(2, choice([]int{1, 2}), constraint(-1, 2), constraint(1, -2), constraint(-1, -2)), "! ! 2:0,1 ! ! 2:3,4 1:2,5", false},
		{"with one answer, the empty set", rulesOf(2, choice([]int{1, 2}), constraint(-1, 2), constraint(1, -2), constraint(1, 2)), "! ! 2:0,1 ! ! 2:3,4 1:2,5", false},
		{"an odd circle", rulesOf(1, plain(1, -1)), "! ! 1:0,1", true},
		{"an even circle", rulesOf(2, either(1, 2)...), "! ! 1:0,1", false},
		{"an odd circle of three, any atom", rulesOf(3, plain(1, -2), plain(2, -3), plain(3, -1)), "! ! 2:0,1", true},
	} {
		checkRefutes(t, c.name, c.p, casesOf(c.list), c.want)
	}
}

// TestRefutesByAtoms: each Atom must be up to Atoms, and UnKnown in what comes.
func TestRefutesByAtoms(t *testing.T) {
	lists := func(atom int) [][]impl.Case {
		c := impl.Case{Atom: atom, No: 1}
		below := impl.Case{Atom: atom, Yes: 3, No: 4}
		return [][]impl.Case{{{}, {}, c}, {{}, {}, {Atom: 3, No: 1}, {}, {}, below, {Atom: 1, Yes: 2, No: 5}}, {{}, {}, {Atom: 3, No: 1}, {}, {}, below, {Atom: 1, Yes: 5, No: 2}}}
	}
	for _, list := range lists(3) {
		checkRefutes(t, "an atom that is open", undecided(3), list, true)
	}
	above := func(atom int) []impl.Case {
		return []impl.Case{{}, {}, {Atom: 3, No: 1}, {}, {}, {Atom: 3, Yes: 3, No: 4}, {Atom: atom, Yes: 2, No: 5}}
	}
	checkRefutes(t, "an atom of which nothing comes", undecided(3), above(1), true)
	checkRefutes(t, "another one of which nothing comes", undecided(3), above(2), true)
	for _, atom := range []int{0, -1, -2, -3, 4, 5, 12, 13, 14, 17, 19, 33, 35, 65, 67, 131, 257, 259, 1<<16 + 1, 1<<32 + 1, 1<<32 + 3, -1<<32 + 3, math.MinInt, math.MinInt + 1, math.MinInt + 3, math.MaxInt} {
		for _, list := range append(lists(atom), above(atom)) {
			checkRefutes(t, "an atom that is none", undecided(3), list, false)
		}
	}
	for n := 1; n <= 12; n++ {
		for atom := -13; atom <= 25; atom++ {
			checkRefutes(t, "the last atom, or another one", undecided(n), []impl.Case{{}, {}, {Atom: atom, No: 1}}, atom == n)
		}
	}
	comes := rulesOf(4, choice([]int{1, 4}), plain(2, 1), plain(3, -1), constraint(4), constraint(-4))
	checkAllRefutes(t, comes, []refutesCase{
		{"open, and one that is open then", "! ! 4:0,1 ! ! 4:3,4 1:2,5", true},
		{"another one, and one that is open then", "! ! 4:0,1 ! ! 4:3,4 2:2,5", true},
		{"the same atom under Yes", "! ! 4:0,1 ! ! 4:3,4 1:2,5 ! ! 4:7,8 1:6,9", false},
		{"the same atom under No", "! ! 4:0,1 ! ! 4:3,4 1:2,5 ! ! 4:7,8 1:9,6", false},
		{"one that has come true, under Yes", "! ! 4:0,1 ! ! 4:3,4 2:2,5 ! ! 4:7,8 1:6,9", false},
		{"one that has come false, under Yes", "! ! 4:0,1 ! ! 4:3,4 3:2,5 ! ! 4:7,8 1:6,9", false},
		{"one that has come false, under No", "! ! 4:0,1 ! ! 4:3,4 2:2,5 ! ! 4:7,8 1:9,6", false},
		{"one that has come true, under No", "! ! 4:0,1 ! ! 4:3,4 3:2,5 ! ! 4:7,8 1:9,6", false},
		{"one that has come, with clashes", "! ! 2:0,1 ! ! 2:3,4 1:2,5", false},
	})
	checkAllRefutes(t, rulesOf(3, plain(1), choice([]int{3}), constraint(3), constraint(-3)), []refutesCase{
		{"open at first", "! ! 3:0,1", true},
		{"true at first", "! ! 1:0,1", false},
		{"false at first", "! ! 2:0,1", false},
		{"true at first, open then", "! ! 3:0,1 ! ! 3:3,4 1:2,5", false},
		{"false at first, open then", "! ! 3:0,1 ! ! 3:3,4 2:2,5", false},
	})
}

// TestRefutesWantsClashesToBeZero: a case with Atom 0 leads to nothing.
func TestRefutesWantsClashesToBeZero(t *testing.T) {
	at := rulesOf(1, constraint())
	for _, places := range [][2]int{{0, 1}, {1, 0}, {1, 1}, {-1, 0}, {0, -1}, {1, 2}, {2, 3}, {400, 0}, {math.MinInt, 0}, {0, math.MaxInt}, {1 << 32, 0}, {0, 256}} {
		c := impl.Case{Yes: places[0], No: places[1]}
		checkRefutes(t, "the root", at, []impl.Case{c}, false)
		checkRefutes(t, "the root behind others", at, []impl.Case{{}, {}, c}, false)
		checkRefutes(t, "under Yes", undecided(1), []impl.Case{c, {}, {Atom: 1, No: 1}}, false)
		checkRefutes(t, "under No", undecided(1), []impl.Case{{}, c, {Atom: 1, No: 1}}, false)
		checkRefutes(t, "farther below", undecided(2), []impl.Case{{}, {}, {Atom: 2, No: 1}, {}, c, {Atom: 2, Yes: 3, No: 4}, {Atom: 1, Yes: 2, No: 5}}, false)
	}
	checkRefutes(t, "the root, 0", at, []impl.Case{{}}, true)
	checkRefutes(t, "under both, 0", undecided(1), []impl.Case{{}, {}, {Atom: 1, No: 1}}, true)
	checkAllRefutes(t, at, []refutesCase{
		{"it leads to others", "! ! 0:0,1", false},
		{"it leads to one other", "! 0:0,0", false},
		{"it leads to one other as No", "! ! 0:0,1 !", false},
	})
}

// TestRefutesOfNoProgram: each would be refuted by some list, but for one change.
func TestRefutesOfNoProgram(t *testing.T) {
	whole := wholeProg()
	whole.Rules = append(whole.Rules, constraint(8), constraint(-8))
	checkRefutes(t, "without a change", whole, casesOf("!"), true)
	whole.Exts = []impl.Ext{{Atom: 5, V: 2}, {Atom: 8}}
	whole.Assume = []int{-5, 9}
	whole.Rules = append(whole.Rules, plain(9))
	checkRefutes(t, "without a change, an atom asked", whole, casesOf("! ! 8:0,1"), true)
	checkRefute(t, "without a change", whole, []int{-8, 2}, "! ! 8:0,1")
	for name, change := range noProgs() {
		p := deepCopy(whole)
		change(&p)
		for _, text := range []string{"", "!", "! ! 8:0,1", "! ! 1:0,1"} {
			checkRefutes(t, name, p, casesOf(text), false)
		}
		for _, order := range [][]int{nil, {-8, 2}, {12}} {
			checkNoRefute(t, name, p, order)
		}
	}
	for _, p := range append(odd(), atLimits(), impl.Prog{Atoms: -1}, impl.Prog{Atoms: 13}, impl.Prog{Atoms: math.MinInt}, impl.Prog{Atoms: math.MaxInt}) {
		if _, ok := impl.Fold(p); !ok {
			checkRefutes(t, "an odd program", p, casesOf("!"), false)
			checkNoRefute(t, "an odd program", p, nil)
		}
	}
}

// TestRefuteAndRoom: with just MaxRules rules of Fold there is a refutation, with one more there is none.
func TestRefuteAndRoom(t *testing.T) {
	free := []impl.Ext{{Atom: 1}}
	for _, c := range []struct {
		name   string
		rules  int
		exts   []impl.Ext
		assume []int
		want   string
	}{
		{"MaxRules rules", 60, nil, nil, "!"},
		{"MaxRules rules with V 0", 59, free, nil, "!"},
		{"one more with V 0", 60, free, nil, ""},
		{"MaxRules rules with V 1", 59, []impl.Ext{{Atom: 1, V: 1}}, nil, "!"},
		{"one more with V 1", 60, []impl.Ext{{Atom: 1, V: 1}}, nil, ""},
		{"V 2 is no rule", 60, []impl.Ext{{Atom: 1, V: 2}}, nil, "!"},
		{"MaxRules rules with what is assumed", 58, nil, []int{12, -1}, "!"},
		{"one more with what is assumed", 59, nil, []int{12, -1}, ""},
		{"MaxRules rules with both", 57, free, []int{1, -2}, "!"},
		{"one more with both", 58, free, []int{1, -2}, ""},
	} {
		p := impl.Prog{Atoms: 12, Rules: append(times(c.rules-1, plain(12)), constraint(12)), Exts: c.exts, Assume: c.assume}
		if c.want == "" {
			checkNoRefute(t, c.name, p, nil)
			checkNoRefuteUnder(t, c.name, p, times(12, 2), nil)
			checkRefutes(t, c.name, p, casesOf("!"), false)
			continue
		}
		checkRefute(t, c.name, p, nil, c.want)
	}
}

type refuteCase struct {
	name  string
	p     impl.Prog
	order []int
	want  string // none, where it is empty
}

func checkAllRefute(t *testing.T, cases []refuteCase) {
	t.Helper()
	for _, c := range cases {
		if c.want == "" {
			checkNoRefute(t, c.name, c.p, c.order)
			continue
		}
		checkRefute(t, c.name, c.p, c.order, c.want)
	}
}

// fifteen is the refutation of three atoms, each asked in each way from the first on.
const fifteen = "! ! 3:0,1 ! ! 3:3,4 2:2,5 ! ! 3:7,8 ! ! 3:10,11 2:9,12 1:6,13"

// TestRefute: with no order, so that the least atom is asked.
func TestRefute(t *testing.T) {
	yes := []impl.Rule{choice([]int{1, 2}), constraint(1), constraint(-1, 2), constraint(-1, -2)}
	no := []impl.Rule{choice([]int{1, 2}), constraint(-1), constraint(1, 2), constraint(1, -2)}
	for _, order := range [][]int{nil, {}} {
		checkAllRefute(t, []refuteCase{
			{"a clash at once", rulesOf(3, constraint()), order, "!"},
			{"a clash at once, of no atoms", rulesOf(0, constraint()), order, "!"},
			{"a clash at once, of weights and no atoms", rulesOf(0, weighed(nil, 0)), order, "!"},
			{"a clash of facts", rulesOf(2, plain(1), constraint(1)), order, "!"},
			{"a clash of what may not come", rulesOf(2, constraint(-1)), order, "!"},
			{"a clash at once, of MaxAtoms", rulesOf(12, choice(impl.SetOf(4095)), constraint()), order, "!"},
			{"no rules and no atoms", impl.Prog{}, order, ""},
			{"no rules", rulesOf(3), order, ""},
			{"a fact", rulesOf(1, plain(1)), order, ""},
			{"whole at once", rulesOf(2, plain(1), plain(2, -1)), order, ""},
			{"an odd circle", rulesOf(1, plain(1, -1)), order, "! ! 1:0,1"},
			{"an odd circle of three", rulesOf(3, plain(1, -2), plain(2, -3), plain(3, -1)), order, "! ! 1:0,1"},
			{"an even circle", rulesOf(2, either(1, 2)...), order, ""},
			{"one open", open(1), order, ""},
			{"one open, whole under Yes alone", rulesOf(1, choice([]int{1}), constraint(-1)), order, ""},
			{"one open, whole under No alone", rulesOf(1, choice([]int{1}), constraint(1)), order, ""},
			{"one open, whole under neither", undecided(1), order, "! ! 1:0,1"},
			{"two open, the last one clashes", undecided(2), order, "! ! 2:0,1 ! ! 2:3,4 1:2,5"},
			{"two open, both clash", undone(2), order, "! ! 2:0,1 ! ! 2:3,4 1:2,5"},
			{"two open, a clash under Yes", rulesOf(2, yes...), order, "! ! ! 2:1,2 1:0,3"},
			{"two open, a clash under No", rulesOf(2, no...), order, "! ! 2:0,1 ! 1:2,3"},
			{"two open, a clash but for the last", rulesOf(2, choice([]int{1, 2}), constraint(1), constraint(-1, 2)), order, ""},
			{"two open, a clash but for the first", rulesOf(2, choice([]int{1, 2}), constraint(-1), constraint(1, -2)), order, ""},
			{"two open, a clash but for one between", rulesOf(2, choice([]int{1, 2}), constraint(-1), constraint(1, 2)), order, ""},
			{"three open", undecided(3), order, fifteen},
			{"three open, all clash", undone(3), order, fifteen},
			{"known atoms are not asked", rulesOf(4, plain(1), choice([]int{3, 4}), constraint(4), constraint(-4)), order, "! ! 4:0,1 ! ! 4:3,4 3:2,5"},
			{"what has come is not asked", rulesOf(4, choice([]int{1, 4}), plain(2, 1), plain(3, -2), constraint(4), constraint(-4)), order, "! ! 4:0,1 ! ! 4:3,4 1:2,5"},
			{"another atom in each part", rulesOf(3, choice([]int{1}), choice([]int{2}, 1), choice([]int{3}, -1), constraint(1, 2), constraint(1, -2), constraint(-1, 3), constraint(-1, -3)), order, "! ! 2:0,1 ! ! 3:3,4 1:2,5"},
			{"assumed in vain", impl.Prog{Atoms: 2, Rules: either(1, 2), Assume: []int{1, 2}}, order, "! ! 1:0,1"},
			{"assumed", impl.Prog{Atoms: 2, Rules: either(1, 2), Assume: []int{1, -2}}, order, ""},
			{"external, and assumed in vain", impl.Prog{Atoms: 1, Exts: []impl.Ext{{Atom: 1, V: 2}}, Assume: []int{1}}, order, "!"},
			{"external, open, and in vain", impl.Prog{Atoms: 1, Exts: []impl.Ext{{Atom: 1}}, Assume: []int{1, -1}}, order, "! ! 1:0,1"},
			{"the last atom", rulesOf(12, choice([]int{12}), constraint(12), constraint(-12)), order, "! ! 12:0,1"},
		})
	}
}

// TestRefuteInOrder: the order tells which atom is asked, but those of its Yes come first whichever literal of it stands there.
func TestRefuteInOrder(t *testing.T) {
	yes := rulesOf(2, choice([]int{1, 2}), constraint(1), constraint(-1, 2), constraint(-1, -2))
	one, other := "! ! ! 2:1,2 1:0,3", "! ! 1:0,1 ! ! 1:3,4 2:2,5"
	checkAllRefute(t, []refuteCase{
		{"above 0", yes, []int{1}, one},
		{"below 0", yes, []int{-1}, one},
		{"both below 0", yes, []int{-1, -2}, one},
		{"one of each", yes, []int{-1, 2}, one},
		{"both of an atom", yes, []int{-1, 1}, one},
		{"both of an atom, the other way round", yes, []int{1, -1}, one},
		{"below 0, twice", yes, []int{-1, -1}, one},
		{"the other one, above 0", undone(2), []int{2}, other},
		{"the other one, below 0", undone(2), []int{-2}, other},
		{"the other one, below 0, with more", undone(2), []int{-2, -1, 1}, other},
		{"the other one first", yes, []int{2}, "! ! 1:0,1 ! ! 1:3,4 2:2,5"},
		{"the last first", undecided(3), []int{3}, "! ! 3:0,1"},
		{"the last first, below 0", undecided(3), []int{-3}, "! ! 3:0,1"},
		{"the last one second", undecided(3), []int{-2, -3}, "! ! 3:0,1 ! ! 3:3,4 2:2,5"},
		{"the last one second, the first one not asked", undecided(3), []int{2, 3, 1}, "! ! 3:0,1 ! ! 3:3,4 2:2,5"},
		{"from the first on", undecided(3), []int{1, 2, 3}, fifteen},
		{"from the first on, below 0", undecided(3), []int{-1, -2, -3}, fifteen},
		{"from the last on", undone(3), []int{-3, 2, -1}, "! ! 1:0,1 ! ! 1:3,4 2:2,5 ! ! 1:7,8 ! ! 1:10,11 2:9,12 3:6,13"},
		{"what is not in it comes last", undone(3), []int{-2}, "! ! 3:0,1 ! ! 3:3,4 1:2,5 ! ! 3:7,8 ! ! 3:10,11 1:9,12 2:6,13"},
		{"above Atoms", undecided(3), []int{4, -12, -3}, "! ! 3:0,1"},
		{"above Atoms alone", undecided(3), []int{4, -12}, fifteen},
		{"known at once", rulesOf(3, plain(1), choice([]int{2, 3}), constraint(3), constraint(-3)), []int{-1, -3}, "! ! 3:0,1"},
		{"known at once alone", rulesOf(3, plain(1), choice([]int{2, 3}), constraint(3), constraint(-3)), []int{1}, "! ! 3:0,1 ! ! 3:3,4 2:2,5"},
		{"known under Yes", rulesOf(4, choice([]int{1, 3, 4}), plain(2, 1), plain(2, 3), constraint(4), constraint(-4)), []int{-1, -2, -4}, "! ! 4:0,1 ! ! 4:3,4 ! ! 4:6,7 2:5,8 1:2,9"},
		{"with an answer", open(3), []int{2, -1}, ""},
		{"with one answer", rulesOf(2, choice([]int{1, 2}), constraint(-1), constraint(1, 2)), []int{-2}, ""},
		{"MaxBody literals", undecided(3), append(times(19, 12), -3), "! ! 3:0,1"},
		{"MaxBody literals, no matter which", undecided(3), times(20, -3), "! ! 3:0,1"},
		{"MaxAtoms", undecided(3), []int{12, -12, -3}, "! ! 3:0,1"},
	})
}

// TestRefuteOfBadOrders: those that Search does not take, whatever there is to ask.
func TestRefuteOfBadOrders(t *testing.T) {
	progs := []impl.Prog{rulesOf(0, constraint()), rulesOf(2, constraint()), undecided(1), undecided(3), rulesOf(12, constraint())}
	for _, p := range progs {
		v := times(p.Atoms, 0)
		if _, ok := impl.RefuteUnder(p, v, times(20, 12)); !ok {
			t.Errorf("RefuteUnder(%+v) is false", p)
		}
		for name, order := range map[string][]int{
			"the literal 0":                      {0},
			"the literal 0 behind others":        {1, -2, 0},
			"an atom above MaxAtoms":             {13},
			"an atom above MaxAtoms, below 0":    {-13},
			"an atom above MaxAtoms at last":     {1, 2, -12, 13},
			"the greatest number":                {math.MaxInt},
			"the least number":                   {math.MinInt},
			"the least number but one":           {math.MinInt + 1},
			"a number whose low bits are 1":      {1<<32 + 1},
			"a number whose low bits are -1":     {1<<32 - 1},
			"a byte of which is 1":               {257},
			"one literal more than MaxBody":      times(21, 1),
			"one literal more, none up to Atoms": times(21, -12),
			"many literals":                      times(1000, 1),
			"too many, and a literal 0":          times(21, 0),
		} {
			checkNoRefute(t, name, p, order)
		}
	}
}

// TestRefuteUnder: it begins with the values that are given, and with what comes of them.
func TestRefuteUnder(t *testing.T) {
	either := rulesOf(2, either(1, 2)...)
	comes := rulesOf(4, choice([]int{1, 4}), plain(2, 1), plain(3, -1), constraint(1, 4), constraint(1, -4))
	for _, c := range []struct {
		name  string
		p     impl.Prog
		v     string
		order []int
		want  string
	}{
		{"a clash at once", either, "++", nil, "!"},
		{"a clash at once, both false", either, "--", nil, "!"},
		{"whole at once", either, "+-", nil, ""},
		{"whole at once in what comes", either, "+?", nil, ""},
		{"whole under both", either, "??", nil, ""},
		{"a clash without any values", rulesOf(2, constraint()), "?-", nil, "!"},
		{"a clash of no atoms", rulesOf(0, constraint()), "", nil, "!"},
		{"no clash of no atoms", rulesOf(0, weighed(nil, 1)), "", nil, ""},
		{"a fact that is false", rulesOf(2, plain(1)), "-?", nil, "!"},
		{"a fact that is true", rulesOf(2, plain(1)), "+?", nil, ""},
		{"what may not come", rulesOf(2, plain(1)), "?+", nil, "!"},
		{"open, one known", open(2), "+?", nil, ""},
		{"open, all known", open(2), "+-", nil, ""},
		{"a clash under both, one known", undecided(2), "+?", nil, "! ! 2:0,1"},
		{"a clash under both, the other one known", undecided(2), "?-", nil, "!"},
		{"a clash under both, none known", undecided(2), "??", nil, "! ! 2:0,1 ! ! 2:3,4 1:2,5"},
		{"whole under Yes alone", rulesOf(2, choice([]int{1, 2}), constraint(1, -2)), "+?", nil, ""},
		{"whole under No alone", rulesOf(2, choice([]int{1, 2}), constraint(1, 2)), "+?", nil, ""},
		{"whole under the values that are not", rulesOf(2, choice([]int{1, 2}), constraint(1, 2), constraint(1, -2)), "+?", nil, "! ! 2:0,1"},
		{"the same the other way round", rulesOf(2, choice([]int{1, 2}), constraint(1, 2), constraint(1, -2)), "-?", nil, ""},
		{"the same with none known", rulesOf(2, choice([]int{1, 2}), constraint(1, 2), constraint(1, -2)), "??", nil, ""},
		{"three atoms, one known", undone(3), "?+?", nil, "! ! 3:0,1 ! ! 3:3,4 1:2,5"},
		{"three atoms, one known, in order", undone(3), "?+?", []int{-2, -3}, "! ! 1:0,1 ! ! 1:3,4 3:2,5"},
		{"three atoms, two known", undone(3), "-?+", []int{-1, 3}, "! ! 2:0,1"},
		{"three atoms, all known", undone(3), "-++", []int{-1, 3}, "!"},
		{"what comes is not asked", comes, "+???", nil, "! ! 4:0,1"},
		{"what comes of the last one", comes, "???+", nil, ""},
		{"what comes of one between", comes, "?+??", []int{-1, -3, -4}, "! ! 4:0,1 ! 1:2,3"},
		{"what comes is whole under one", comes, "-???", nil, ""},
		{"an order that is all known", undone(3), "+??", []int{-1, 1}, "! ! 3:0,1 ! ! 3:3,4 2:2,5"},
		{"an order above Atoms", undone(3), "+??", []int{-4, 12}, "! ! 3:0,1 ! ! 3:3,4 2:2,5"},
		{"an order with a -", undone(3), "+??", []int{-3}, "! ! 2:0,1 ! ! 2:3,4 3:2,5"},
		{"assumed", impl.Prog{Atoms: 2, Rules: open(2).Rules, Assume: []int{1}}, "-?", nil, "!"},
		{"assumed, and open", impl.Prog{Atoms: 2, Rules: open(2).Rules, Assume: []int{1}}, "+?", nil, ""},
		{"external", impl.Prog{Atoms: 2, Exts: []impl.Ext{{Atom: 1, V: 1}, {Atom: 2}}}, "-?", nil, "!"},
		{"external, with V 2", impl.Prog{Atoms: 2, Exts: []impl.Ext{{Atom: 1, V: 2}, {Atom: 2}}}, "+?", nil, "!"},
		{"external, with V 0", impl.Prog{Atoms: 2, Exts: []impl.Ext{{Atom: 1, V: 1}, {Atom: 2}}, Rules: []impl.Rule{constraint(1, 2), constraint(1, -2)}}, "??", nil, "! ! 2:0,1"},
	} {
		if c.want == "" {
			checkNoRefuteUnder(t, c.name, c.p, valuesOf(c.v), c.order)
			continue
		}
		checkRefuteUnder(t, c.name, c.p, valuesOf(c.v), c.order, c.want)
	}
}

func TestRefuteUnderNoValues(t *testing.T) {
	for _, p := range []impl.Prog{rulesOf(3, constraint()), undecided(3), undone(3)} {
		for name, v := range map[string][]int{
			"none":                   nil,
			"one too few":            {0, 0},
			"one too many":           {0, 0, 0, 0},
			"one too many, IsTrue":   {0, 0, 0, 1},
			"below 0":                {0, 0, -1},
			"above 2":                {3, 0, 0},
			"above 2 at last":        {1, 1, 3},
			"the least number":       {0, 0, math.MinInt},
			"a byte of them is":      {256, 0, 0},
			"32 bits of them are":    {0, 1<<32 + 1, 0},
			"as many as MaxAtoms":    times(12, 0),
			"one more than MaxAtoms": times(13, 0),
			"many":                   times(1000, 1),
		} {
			for _, order := range [][]int{nil, {3}, {-2, 1}} {
				checkNoRefuteUnder(t, name, p, v, order)
			}
		}
		if _, ok := impl.RefuteUnder(p, times(3, 0), nil); !ok {
			t.Errorf("RefuteUnder(%+v) is false", p)
		}
	}
	checkNoRefuteUnder(t, "values of no atoms", rulesOf(0, constraint()), []int{0}, nil)
	checkRefuteUnder(t, "no values of no atoms", rulesOf(0, constraint()), []int{}, nil, "!")
}

// TestRefuteAtMaxCases: a refutation has always an odd number of cases, so that just under MaxCases there are 399, and then 401.
func TestRefuteAtMaxCases(t *testing.T) {
	for clashes := 1; clashes <= 512; clashes++ {
		p := branching(clashes)
		want, ok := refuteBy(p, times(p.Atoms, 0), nil)
		steps := impl.Search(p, nil, 0, impl.MaxBudget).Steps
		if !ok || len(want) != 2*clashes-1 || steps != len(want) {
			t.Fatalf("by the definition %d cases refute %+v, %v, with %d clashes and %d steps", len(want), p, ok, clashes, steps)
		}
		if clashes > 200 {
			checkNoRefute(t, "more than MaxCases", p, nil)
			checkRefutes(t, "more than MaxCases", p, want, false)
			continue
		}
		checkRefute(t, "up to MaxCases", p, nil, casesText(want))
		checkRefutes(t, "a case more", p, append(slices.Clone(want), impl.Case{}), false)
		checkRefutes(t, "a case less", p, want[:len(want)-1], false)
	}
	for _, n := range []int{8, 9, 12} {
		checkNoRefute(t, "far more than MaxCases", undecided(n), nil)
		want, _ := refuteBy(undecided(n), times(n, 0), nil)
		checkRefutes(t, "far more than MaxCases", undecided(n), want, false)
		checkRefute(t, "few cases in another order", undecided(n), []int{-n}, "! ! "+strconv.Itoa(n)+":0,1")
	}
}

// TestRefuteAtMaxCasesOnOneSide: there is as much room under Yes as under No.
func TestRefuteAtMaxCasesOnOneSide(t *testing.T) {
	for _, clashes := range []int{1, 2, 100, 198, 199, 200, 201, 300} {
		for _, sign := range []int{1, -1} {
			p := branching(clashes)
			p.Atoms++
			p.Rules = append(p.Rules, choice([]int{p.Atoms}), constraint(sign*p.Atoms))
			for _, order := range [][]int{{p.Atoms}, {-p.Atoms}} {
				want, _ := refuteBy(p, times(p.Atoms, 0), order)
				if clashes == 1 {
					checkRefute(t, "a clash at once", p, order, "!")
				} else if len(want) != 2*clashes+1 {
					t.Errorf("by the definition %d cases refute %+v", len(want), p)
				} else if clashes <= 199 {
					checkRefute(t, "a clash on one side", p, order, casesText(want))
				} else {
					checkNoRefute(t, "a clash on one side", p, order)
					checkRefutes(t, "a clash on one side", p, want, false)
				}
			}
			one, clashing := times(p.Atoms, 0), times(p.Atoms, 0)
			one[p.Atoms-1], clashing[p.Atoms-1] = (3+sign)/2, (3-sign)/2
			want, _ := refuteBy(p, one, nil)
			checkRefuteUnder(t, "that side alone", p, clashing, nil, "!")
			if clashes <= 200 {
				checkRefuteUnder(t, "the other side alone", p, one, nil, casesText(want))
			} else {
				checkNoRefuteUnder(t, "the other side alone", p, one, nil)
			}
		}
	}
}

// refuteBy is the refutation that begins with values, by the definition, however many cases it has.
func refuteBy(p impl.Prog, v, order []int) ([]impl.Case, bool) {
	come, ok := impl.Propagate(p, v)
	if !ok {
		return []impl.Case{{}}, true
	}
	atom := sized(splitsBy(order, come))
	if atom == 0 {
		return nil, false
	}
	var list []impl.Case
	places := map[int]int{}
	for _, value := range []int{impl.IsTrue, impl.IsFalse} {
		next := slices.Clone(come)
		next[atom-1] = value
		part, ok := refuteBy(p, next, order)
		if !ok {
			return nil, false
		}
		ahead := len(list)
		for _, c := range part {
			if c.Atom != 0 {
				c.Yes, c.No = c.Yes+ahead, c.No+ahead
			}
			list = append(list, c)
		}
		places[value] = len(list) - 1
	}
	return append(list, impl.Case{Atom: atom, Yes: places[impl.IsTrue], No: places[impl.IsFalse]}), true
}

// refutesBy tells by the definition whether a list is a refutation.
func refutesBy(p impl.Prog, list []impl.Case) bool {
	if _, ok := impl.Fold(p); !ok || len(list) < 1 || len(list) > 400 {
		return false
	}
	told := make([]int, len(list))
	for i, c := range list {
		if c.Atom == 0 && c != (impl.Case{}) {
			return false
		}
		if c.Atom == 0 {
			continue
		}
		for _, place := range []int{c.Yes, c.No} {
			if place < 0 || place >= i {
				return false
			}
			told[place]++
		}
	}
	root := len(list) - 1
	return !slices.ContainsFunc(told[:root], func(n int) bool { return n != 1 }) && rightBy(p, times(p.Atoms, 0), list, root)
}

// rightBy tells it of one case with its values, and of those that it leads to.
func rightBy(p impl.Prog, v []int, list []impl.Case, place int) bool {
	come, ok := impl.Propagate(p, v)
	c := list[place]
	if c.Atom == 0 {
		return !ok
	}
	if !ok || c.Atom < 1 || c.Atom > p.Atoms || come[c.Atom-1] != impl.UnKnown {
		return false
	}
	yes, no := slices.Clone(come), slices.Clone(come)
	yes[c.Atom-1], no[c.Atom-1] = impl.IsTrue, impl.IsFalse
	return rightBy(p, yes, list, c.Yes) && rightBy(p, no, list, c.No)
}

// mixedCases are the cases of a refutation in another order, each behind those that it leads to.
func mixedCases(from *rand.Rand, list []impl.Case) []impl.Case {
	at := times(len(list), -1)
	var mixed []impl.Case
	for len(mixed) < len(list) {
		i := from.Intn(len(list))
		c := list[i]
		if at[i] >= 0 || c.Atom != 0 && (at[c.Yes] < 0 || at[c.No] < 0) {
			continue
		}
		if c.Atom != 0 {
			c.Yes, c.No = at[c.Yes], at[c.No]
		}
		at[i] = len(mixed)
		mixed = append(mixed, c)
	}
	return mixed
}

// nearlyCases is a list with one change, or with none.
func nearlyCases(from *rand.Rand, list []impl.Case, atoms int) []impl.Case {
	list = slices.Clone(list)
	if len(list) == 0 {
		return list
	}
	i, j := from.Intn(len(list)), from.Intn(len(list))
	switch from.Intn(12) {
	case 0:
		list = slices.Delete(list, i, i+1)
	case 1:
		list = slices.Insert(list, i, list[j])
	case 2:
		list[i], list[j] = list[j], list[i]
	case 3, 4:
		list[i].Yes, list[i].No = list[i].No, list[i].Yes
	case 5, 6:
		list[i].Atom = from.Intn(atoms+4) - 2
	case 7:
		list[i].Yes = from.Intn(len(list)+3) - 1
	case 8:
		list[i].No = from.Intn(len(list)+3) - 1
	case 9:
		list[i] = impl.Case{}
	case 10:
		list = append(list, impl.Case{})
	}
	return list
}

// someVain is a program of n atoms with little that is told and much that must not be, mostly without an answer.
func someVain(from *rand.Rand, n int) impl.Prog {
	p := impl.Prog{Atoms: n, Rules: []impl.Rule{choice(impl.SetOf(1<<n - 1))}}
	if from.Intn(2) == 0 {
		p.Rules = append(p.Rules, someRule(from, n))
	}
	most := 45
	if from.Intn(4) == 0 {
		a := 1 + from.Intn(n)
		p.Rules, most = append(p.Rules, constraint(a), constraint(-a)), 6
	}
	for i := 5 + from.Intn(most-5); i > 0; i-- {
		r := constraint()
		for range 2 + from.Intn(2) {
			r.Body = append(r.Body, wl((1+from.Intn(n))*(1-2*from.Intn(2)), 1))
		}
		p.Rules = append(p.Rules, r)
	}
	if from.Intn(3) == 0 {
		p.Exts, p.Assume = []impl.Ext{{Atom: 1, V: from.Intn(3)}}, []int{1 + from.Intn(n)}
	}
	return p
}

// TestAllListsOfCases: of programs of one or two atoms, each list of up to three Cases.
func TestAllListsOfCases(t *testing.T) {
	progs := []impl.Prog{{}, rulesOf(0, constraint()), open(1), undecided(1), rulesOf(1, constraint()), rulesOf(1, plain(1, -1)),
		rulesOf(1, choice([]int{1}), constraint(1)), open(2), undecided(2), rulesOf(2, plain(2), plain(1, 2, -1)), rulesOf(2, plain(2, -1, -2), plain(1))}
	for _, p := range progs {
		var all []impl.Case
		for atom := -1; atom <= p.Atoms+1; atom++ {
			for place := range 16 {
				all = append(all, impl.Case{Atom: atom, Yes: place%4 - 1, No: place/4 - 1})
			}
		}
		right, none := 0, impl.Count(p) == 0
		for n := range power(3, len(all)) {
			list := []impl.Case{all[n%len(all)], all[n/len(all)%len(all)], all[n/len(all)/len(all)]}
			for size := range len(list) + 1 {
				if n >= power(size, len(all)) {
					continue
				}
				is := refutesBy(p, list[:size])
				if impl.Refutes(p, list[:size]) != is {
					t.Fatalf("Refutes(%+v, %v) is not %v", p, list[:size], is)
				}
				if is {
					right++
				}
			}
		}
		if right > 0 && !none || right > 2 {
			t.Errorf("%d lists refute %+v, which has %d answers", right, p, impl.Count(p))
		}
	}
}

// TestRefutationsOfMany: of many programs and orders, what the definition tells; it refutes in each order of its cases, and just what has no answer is refuted, as far as there is room.
func TestRefutationsOfMany(t *testing.T) {
	from := rand.New(rand.NewSource(86))
	refuted, answered, great, deep := 0, 0, 0, 0
	for i := range 3000 {
		p := someFree(from, 1+from.Intn(6))
		if i%3 > 0 {
			p = someVain(from, 2+from.Intn(9))
		}
		answers := impl.Count(p)
		if i%5 == 0 && answers != len(answersOfWhole(p)) {
			t.Fatalf("Count(%+v) is %d", p, answers)
		}
		order := someOrder(from, 20, 12)
		want, none := refuteBy(p, times(p.Atoms, 0), order)
		if none != (answers == 0) {
			t.Fatalf("by the definition %q refute %+v, %v, which has %d answers", casesText(want), p, none, answers)
		}
		if !none {
			answered++
			checkNoRefute(t, "with an answer", p, order)
			continue
		}
		if f := impl.Search(p, order, 0, impl.MaxBudget); !f.Done || f.Steps != len(want) || len(f.Sets) != 0 {
			t.Fatalf("Search(%+v, %v) = %+v, and %d cases refute it", p, order, f, len(want))
		}
		if len(want) > 400 {
			great++
			checkNoRefute(t, "more than MaxCases", p, order)
			checkRefutes(t, "more than MaxCases", p, want, false)
			continue
		}
		refuted++
		if len(want) > 20 {
			deep++
		}
		checkRefute(t, "without an answer", p, order, casesText(want))
		for range 3 {
			checkRefutes(t, "in another order", p, mixedCases(from, want), true)
		}
	}
	if refuted < 800 || answered < 500 || great < 10 || deep < 200 {
		t.Errorf("the programs are too much alike: %d are refuted, %d by more than 20 cases, %d have answers, %d take more than MaxCases", refuted, deep, answered, great)
	}
}

// TestListsThatRefute: whatever list does, what it refutes has no answer; many lists that are nearly right, of the same program or of another one that is nearly the same.
func TestListsThatRefute(t *testing.T) {
	from := rand.New(rand.NewSource(87))
	right, wrong, other := 0, 0, 0
	for range 1500 {
		n := 2 + from.Intn(5)
		p := someVain(from, n)
		list, _ := impl.Refute(p, someOrder(from, 12, n))
		if len(list) == 0 {
			list = casesOf(fifteen)
		}
		for range 20 {
			q, some := p, nearlyCases(from, mixedCases(from, list), n)
			if from.Intn(3) == 0 {
				q = nearly(from, p)
			}
			is := refutesBy(q, some)
			if impl.Refutes(q, some) != is {
				t.Fatalf("Refutes(%+v, %q) is not %v", q, casesText(some), is)
			}
			if !is {
				wrong++
				continue
			}
			if right++; !alike(p, q) {
				other++
			}
			if impl.Count(q) != 0 || len(impl.Search(q, nil, 1, impl.MaxBudget).Sets) != 0 {
				t.Fatalf("%q refutes %+v, which has answers", casesText(some), q)
			}
		}
	}
	if right < 3000 || wrong < 5000 || other < 1000 {
		t.Errorf("the lists are too much alike: %d are right, %d are not, %d are right of another program", right, wrong, other)
	}
}

// TestRefutationsUnderValues: of many programs, values and orders, what the definition tells; where values are refuted no answer agrees with them, and where none agrees they are refuted, as far as there is room.
func TestRefutationsUnderValues(t *testing.T) {
	from := rand.New(rand.NewSource(88))
	refuted, answered, alone, deep := 0, 0, 0, 0
	for i := range 1500 {
		p := someFree(from, 1+from.Intn(6))
		if i%2 > 0 {
			p = someVain(from, 2+from.Intn(6))
		}
		answers := impl.Answers(p)
		for range 12 {
			v := make([]int, p.Atoms)
			for range from.Intn(3 + p.Atoms/2) {
				v[from.Intn(p.Atoms)] = from.Intn(3)
			}
			order := someOrder(from, 20, 12)
			agreed := slices.ContainsFunc(answers, func(s impl.Set) bool { return agrees(s.A, v) })
			want, none := refuteBy(p, v, order)
			if none == agreed {
				t.Fatalf("by the definition %q refute %v of %+v, %v, and an answer agrees: %v", casesText(want), v, p, none, agreed)
			}
			if agreed || len(want) > 400 {
				answered++
				checkNoRefuteUnder(t, "values with which an answer agrees", p, v, order)
				continue
			}
			refuted++
			checkRefuteUnder(t, "values with which no answer agrees", p, v, order, casesText(want))
			if len(answers) > 0 {
				alone++
			}
			if len(want) > 10 {
				deep++
			}
		}
	}
	if refuted < 4000 || answered < 2000 || alone < 1000 || deep < 300 {
		t.Errorf("the values are too much alike: %d are refuted, %d of them alone, %d by more than 10 cases, with %d an answer agrees", refuted, alone, deep, answered)
	}
}

// TestRefuteUnderWhatARootSays: each part of a refutation is one of the values that come, with the root's Atom so.
func TestRefuteUnderWhatARootSays(t *testing.T) {
	from := rand.New(rand.NewSource(89))
	asked := 0
	for range 1000 {
		p := someVain(from, 2+from.Intn(5))
		order := someOrder(from, 20, 12)
		list, ok := impl.Refute(p, order)
		if !ok || len(list) == 1 {
			continue
		}
		root := list[len(list)-1]
		come, _ := impl.Propagate(p, times(p.Atoms, 0))
		if next, _ := impl.Splits(p, order, come); root.Atom != next || root.No != len(list)-2 {
			t.Fatalf("Refute(%+v, %v) = %q, and %d is asked first", p, order, casesText(list), next)
		}
		yes, no := slices.Clone(come), slices.Clone(come)
		yes[root.Atom-1], no[root.Atom-1] = impl.IsTrue, impl.IsFalse
		one, ok := impl.RefuteUnder(p, yes, order)
		other, also := impl.RefuteUnder(p, no, order)
		if !ok || !also || len(one) != root.Yes+1 || len(one)+len(other)+1 != len(list) || !slices.Equal(list[:len(one)], one) {
			t.Fatalf("Refute(%+v, %v) = %q, but of its two parts %q, %q", p, order, casesText(list), casesText(one), casesText(other))
		}
		asked++
	}
	if asked < 300 {
		t.Errorf("the programs are too much alike: only %d have more than one case", asked)
	}
}

// TestRefuteIsAlwaysTheSame: however often it is asked, by however many at once.
func TestRefuteIsAlwaysTheSame(t *testing.T) {
	p := undone(3)
	byMany(25, func() {
		checkRefute(t, "again", p, []int{-2, 1, 3}, "! ! 3:0,1 ! ! 3:3,4 1:2,5 ! ! 3:7,8 ! ! 3:10,11 1:9,12 2:6,13")
		checkNoRefute(t, "again", open(2), nil)
		checkRefuteUnder(t, "again", p, []int{2, 0, 0}, []int{3}, "! ! 2:0,1 ! ! 2:3,4 3:2,5")
		checkRefutes(t, "again", p, casesOf("! ! 3:0,1 ! ! 3:3,4 1:2,5"), false)
	})
}

// refutable are programs, and what is none, of which some are refuted, for calls that must leave them as they are.
func refutable() []impl.Prog {
	whole := wholeProg()
	whole.Exts = []impl.Ext{{Atom: 8}}
	whole.Assume = []int{-8, 8}
	return append(searchable(), whole, undecided(3), undone(3), branching(11), branching(200), rulesOf(12, constraint()), rulesOf(1, plain(1, -1)))
}

// listed are lists of cases of many kinds for a program.
func listed(p impl.Prog) [][]impl.Case {
	all := [][]impl.Case{nil, {}, casesOf("!"), casesOf("! ! 1:0,1"), casesOf("! ! 3:0,1"), casesOf(fifteen), casesOf("! ! 0:0,1"), casesOf("13:0,0 -1:-1,7"), {{Atom: math.MinInt, Yes: math.MaxInt}}}
	if list, ok := impl.Refute(p, nil); ok {
		all = append(all, list, list[:len(list)-1])
	}
	return all
}

func TestRefuteArgumentsAreKept(t *testing.T) {
	for _, made := range refutable() {
		for _, order := range orders {
			list := withSpare(order)
			keeping(t, "Refute", withSpare(made), func(p impl.Prog) { impl.Refute(p, list) })
			for _, v := range valued(made.Atoms) {
				values := withSpare(v)
				keeping(t, "RefuteUnder", withSpare(made), func(p impl.Prog) { impl.RefuteUnder(p, values, list) })
				checkKept(t, "RefuteUnder", values, v)
			}
			checkKept(t, "Refute or RefuteUnder", list, order)
		}
		for _, cases := range listed(made) {
			keeping(t, "Refutes", withSpare(made), func(p impl.Prog) { impl.Refutes(p, cases) })
			keeping(t, "Refutes", withSpare(cases), func(list []impl.Case) { impl.Refutes(made, list) })
		}
	}
}

func TestRefuteSpareIsNotRead(t *testing.T) {
	refuted, under, right := 0, 0, 0
	for _, made := range refutable() {
		p := withSpare(made)
		for _, order := range orders {
			list := withSpare(order)
			got, ok := impl.Refute(p, list)
			want, also := impl.Refute(made, order)
			if ok != also || !alike(got, want) {
				t.Errorf("the room behind the lists of %+v or %v is read", made, order)
			}
			refuted += len(want)
			for _, v := range valued(made.Atoms) {
				got, ok := impl.RefuteUnder(p, withSpare(v), list)
				want, also := impl.RefuteUnder(made, v, order)
				if ok != also || !alike(got, want) {
					t.Errorf("the room behind the lists of %+v, %v or %v is read", made, v, order)
				}
				under += len(want)
			}
		}
		for _, cases := range listed(made) {
			is := impl.Refutes(made, cases)
			if impl.Refutes(p, withSpare(cases)) != is {
				t.Errorf("the room behind the lists of %+v or %v is read", made, cases)
			}
			if is {
				right++
			}
		}
	}
	if refuted < 500 || under < 1000 || right < 6 {
		t.Errorf("only %d cases refute, %d under values, %d lists are right", refuted, under, right)
	}
	behind := casesOf("! ! 3:0,1 ! ! 3:3,4 1:2,5")
	checkRefutes(t, "cases behind a list", undecided(3), behind[:3], true)
	checkRefutes(t, "cases behind a list, one too few", undecided(3), behind[:6], false)
	checkRefutes(t, "a case behind a list of none", rulesOf(1, constraint()), casesOf("!")[:0], false)
	checkRefute(t, "bad ones behind an order", undecided(3), []int{-3, 0, 13}[:1], "! ! 3:0,1")
	checkRefute(t, "too many behind an order", undecided(3), append([]int{3}, times(20, 1)...)[:20], "! ! 3:0,1")
	checkRefuteUnder(t, "values behind values", undecided(2), []int{1, 0, 2}[:2], nil, "! ! 2:0,1")
	checkRefute(t, "a rule behind Rules", impl.Prog{Atoms: 1, Rules: append(undecided(1).Rules, constraint())[:3]}, nil, "! ! 1:0,1")
}

func TestRefuteAnswersAreNew(t *testing.T) {
	for _, made := range refutable() {
		p := withSpare(made)
		for _, order := range orders {
			list := withSpare(order)
			all := []any{p, list}
			for range 2 {
				cases, _ := impl.Refute(p, list)
				handsOutNothing(t, "Refute", reflect.ValueOf(cases))
				all = append(all, cases)
				for _, v := range valued(made.Atoms) {
					values := withSpare(v)
					under, _ := impl.RefuteUnder(p, values, list)
					handsOutNothing(t, "RefuteUnder", reflect.ValueOf(under))
					all = append(all, values, under)
				}
			}
			checkApart(t, "a call of chapter 16", all...)
		}
	}
	p := undecided(2)
	for range 2 {
		one, _ := impl.Refute(p, nil)
		clear(one[:cap(one)])
		other, _ := impl.RefuteUnder(p, []int{1, 0}, nil)
		clear(other[:cap(other)])
	}
	checkRefute(t, "where one is written into", p, nil, "! ! 2:0,1 ! ! 2:3,4 1:2,5")
	checkRefuteUnder(t, "where one is written into", p, []int{1, 0}, nil, "! ! 2:0,1")
}
