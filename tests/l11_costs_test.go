package tests

import (
	"math"
	"math/rand"
	"reflect"
	"slices"
	"strings"
	"testing"

	"loop.example/g00554/impl"
)

func level(p int, row ...impl.WLit) impl.Level {
	return impl.Level{P: p, Lits: row}
}

// costsBy are the costs of a set by the definition, the level with the greatest P first.
func costsBy(p impl.Prog, x []int) []int {
	stand := stands(x)
	left := slices.Clone(p.Levels)
	var costs []int
	for len(left) > 0 {
		next := 0
		for i := range left {
			if left[i].P > left[next].P {
				next = i
			}
		}
		cost := 0
		for _, w := range left[next].Lits {
			if w.L > 0 && stand[w.L] || w.L < 0 && !stand[-w.L] {
				cost += w.W
			}
		}
		costs = append(costs, cost)
		left = slices.Delete(left, next, next+1)
	}
	return costs
}

// cheaperBy compares by the definition.
func cheaperBy(a, b []int) int {
	for i := 0; ; i++ {
		switch {
		case i == len(a) && i == len(b):
			return 0
		case i == len(a):
			return -1
		case i == len(b):
			return 1
		case a[i] < b[i]:
			return -1
		case a[i] > b[i]:
			return 1
		}
	}
}

// noMore tells whether a costs no more than b at any place.
func noMore(a, b []int) bool {
	for i := range a {
		if a[i] > b[i] {
			return false
		}
	}
	return true
}

// checkCosts fails where the costs are other ones than those that are wanted, told with blanks between.
func checkCosts(t *testing.T, name string, p impl.Prog, x []int, want string) {
	t.Helper()
	if got := textOf(impl.CostsOf(p, x)); got != want {
		t.Errorf("%s: CostsOf(%+v, %v) = %s, not %s", name, p, x, got, want)
	}
}

func TestCostsOfOneLevel(t *testing.T) {
	for _, c := range []struct {
		name string
		row  []impl.WLit
		x    []int
		want string
	}{
		{"no Lits", nil, []int{1, 2}, "0"},
		{"an empty list of Lits", []impl.WLit{}, nil, "0"},
		{"above 0, that holds", []impl.WLit{wl(2, 7)}, []int{1, 2}, "7"},
		{"above 0, that does not", []impl.WLit{wl(2, 7)}, []int{1, 3}, "0"},
		{"above 0, the empty set", []impl.WLit{wl(2, 7)}, nil, "0"},
		{"below 0, that holds", []impl.WLit{wl(-2, 7)}, []int{1, 3}, "7"},
		{"below 0, that does not", []impl.WLit{wl(-2, 7)}, []int{1, 2}, "0"},
		{"below 0, the empty set", []impl.WLit{wl(-2, 7)}, nil, "7"},
		{"W below 0, above 0", []impl.WLit{wl(2, -7)}, []int{2}, "-7"},
		{"W below 0, above 0, that does not", []impl.WLit{wl(2, -7)}, []int{3}, "0"},
		{"W below 0, below 0", []impl.WLit{wl(-2, -7)}, []int{3}, "-7"},
		{"W below 0, below 0, that does not", []impl.WLit{wl(-2, -7)}, []int{2}, "0"},
		{"W 0", []impl.WLit{wl(2, 0)}, []int{2}, "0"},
		{"W 0, below 0", []impl.WLit{wl(-2, 0)}, nil, "0"},
		{"W 0 beside another one", []impl.WLit{wl(2, 0), wl(1, 3)}, []int{1, 2}, "3"},
		{"one that holds and one that does not", []impl.WLit{wl(1, 3), wl(2, 5)}, []int{2}, "5"},
		{"both hold", []impl.WLit{wl(1, 3), wl(2, 5)}, []int{1, 2}, "8"},
		{"both signs of W", []impl.WLit{wl(1, 3), wl(-2, -5), wl(-3, 1)}, []int{1}, "-1"},
		{"together 0", []impl.WLit{wl(1, 5), wl(-2, -5)}, []int{1}, "0"},
		{"a literal twice", []impl.WLit{wl(1, 3), wl(1, 4)}, []int{1}, "7"},
		{"a literal twice, alike", []impl.WLit{wl(1, 3), wl(1, 3)}, []int{1}, "6"},
		{"a literal twice, of both signs of W", []impl.WLit{wl(1, 3), wl(1, -4)}, []int{1}, "-1"},
		{"both of an atom", []impl.WLit{wl(2, 3), wl(-2, 4)}, []int{2}, "3"},
		{"both of an atom, the empty set", []impl.WLit{wl(2, 3), wl(-2, 4)}, nil, "4"},
		{"the first and the last atom", []impl.WLit{wl(5, 10), wl(1, 1)}, []int{1, 5}, "11"},
		{"MaxBody Lits of MaxW", times(20, wl(1, 1000)), []int{1}, "20000"},
		{"MaxBody Lits of -MaxW", times(20, wl(-1, -1000)), nil, "-20000"},
		{"all but the last of MaxBody", append(times(19, wl(1, 1000)), wl(2, 1)), []int{1}, "19000"},
		{"the last of MaxBody alone", append(times(19, wl(2, 1000)), wl(1, -1)), []int{1}, "-1"},
	} {
		for _, at := range []int{-100000, -3, 0, 8, 100000} {
			p := impl.Prog{Atoms: 5, Levels: []impl.Level{level(at, c.row...)}}
			checkCosts(t, c.name, p, c.x, c.want)
			// Whether the set is an answer, and what is seen of it, is not asked.
			p.Rules = []impl.Rule{constraint(), plain(2)}
			p.ProjOn, p.Project = true, []int{4}
			p.Exts, p.Assume = []impl.Ext{{Atom: 1, V: 1}, {Atom: 3, V: 2}}, []int{-1}
			checkCosts(t, c.name+", no answer", p, c.x, c.want)
		}
	}
}

// TestCostsOfLists: a list counts by its atoms.
func TestCostsOfLists(t *testing.T) {
	p := impl.Prog{Atoms: 4, Levels: []impl.Level{level(0, wl(1, 1), wl(2, 10), wl(-3, 100), wl(-4, 1000))}}
	for _, c := range []struct {
		name string
		x    []int
		want string
	}{
		{"nothing", nil, "1100"},
		{"an empty list", []int{}, "1100"},
		{"all", []int{1, 2, 3, 4}, "11"},
		{"rising", []int{1, 3}, "1001"},
		{"falling", []int{3, 1}, "1001"},
		{"an atom twice", []int{1, 3, 1, 1, 3}, "1001"},
		{"an atom twice alone", []int{2, 2}, "1110"},
		{"no atoms", []int{0, 13, -1, -2, math.MinInt, math.MaxInt, 1<<32 + 1, 258}, "1100"},
		{"no atoms among some", []int{0, 2, 13, -1, 3}, "1010"},
		{"below 0", []int{-3, -4}, "1100"},
		{"atoms above Atoms", []int{2, 5, 12}, "1110"},
		{"atoms above Atoms alone", []int{5, 12}, "1100"},
	} {
		checkCosts(t, c.name, p, c.x, c.want)
	}
}

func TestCostsOfLevels(t *testing.T) {
	for _, c := range []struct {
		name   string
		levels []impl.Level
		x      []int
		want   string
	}{
		{"none", nil, []int{1, 2}, ""},
		{"an empty list", []impl.Level{}, []int{1, 2}, ""},
		{"two", []impl.Level{level(1, wl(1, 5)), level(2, wl(2, 7))}, []int{1, 2}, "7 5"},
		{"two, the first holds", []impl.Level{level(1, wl(1, 5)), level(2, wl(2, 7))}, []int{1}, "0 5"},
		{"two, the last holds", []impl.Level{level(1, wl(1, 5)), level(2, wl(2, 7))}, []int{2}, "7 0"},
		{"two, neither holds", []impl.Level{level(1, wl(1, 5)), level(2, wl(2, 7))}, []int{3}, "0 0"},
		{"P below 0", []impl.Level{level(-9, wl(1, 5)), level(-2, wl(2, 7))}, []int{1, 2}, "7 5"},
		{"P on both sides of 0", []impl.Level{level(-9, wl(1, 5)), level(0, wl(2, 7)), level(2, wl(3, 9))}, []int{1, 2, 3}, "9 7 5"},
		{"P at its limits", []impl.Level{level(-100000, wl(1, 5)), level(100000, wl(2, 7))}, []int{1, 2}, "7 5"},
		{"the greater sizes of P below 0", []impl.Level{level(-10, wl(1, 5)), level(1, wl(2, 7))}, []int{1, 2}, "7 5"},
		{"a level without Lits between", []impl.Level{level(1, wl(1, 5)), level(2), level(3, wl(2, 7))}, []int{1, 2}, "7 0 5"},
		{"a level without Lits first", []impl.Level{level(1), level(2, wl(1, 5))}, []int{1, 2}, "5 0"},
		{"one literal in each", []impl.Level{level(1, wl(1, 5)), level(2, wl(1, -6)), level(3, wl(1, 0))}, []int{1}, "0 -6 5"},
		{"a literal in one, its other one in the next", []impl.Level{level(1, wl(1, 5)), level(2, wl(-1, 6))}, []int{1}, "0 5"},
	} {
		checkCosts(t, c.name, impl.Prog{Atoms: 4, Levels: c.levels}, c.x, c.want)
	}
}

// rankedProg has n levels, and of the one at place i, from 0 on, the cost is i+1 with all atoms.
func rankedProg(n int) impl.Prog {
	p := impl.Prog{Atoms: 12}
	for i := range n {
		p.Levels = append(p.Levels, level(10*i-17, wl(i+1, i+1), wl(-i-7, 50)))
	}
	return p
}

// TestCostsOfEachNumberOfLevels: up to MaxLevels the one with the greatest P is the first, whatever the others cost.
func TestCostsOfEachNumberOfLevels(t *testing.T) {
	for n, want := range []string{"", "1", "2 1", "3 2 1", "4 3 2 1", "5 4 3 2 1", "6 5 4 3 2 1"} {
		checkCosts(t, "all atoms", rankedProg(n), impl.SetOf(4095), want)
		checkCosts(t, "no atoms", rankedProg(n), nil, textOf(times(n, 50)))
		checkCosts(t, "one more", rankedProg(n), impl.SetOf(4095-2048), strings.Replace(want, "6", "56", 1))
	}
	checkCosts(t, "one more than MaxLevels", rankedProg(7), impl.SetOf(4095), "")
	full := atLimits()
	checkCosts(t, "a program at its limits", full, impl.SetOf(4095), "20000 20000 20000 20000 0 0")
	checkCosts(t, "a program at its limits, the empty set", full, nil, "0 0 0 0 0 -20000")
}

func TestCostsOfNoAtoms(t *testing.T) {
	checkCosts(t, "the zero program", impl.Prog{}, []int{1}, "")
	checkCosts(t, "a level", impl.Prog{Levels: []impl.Level{level(3)}}, []int{1}, "0")
	checkCosts(t, "two levels", impl.Prog{Levels: []impl.Level{level(3), level(4, []impl.WLit{}...)}}, nil, "0 0")
	checkCosts(t, "a level with a literal", impl.Prog{Levels: []impl.Level{level(3, wl(1, 1))}}, []int{1}, "")
}

func checkCheaper(t *testing.T, name string, a, b []int, want int) {
	t.Helper()
	if got := impl.Cheaper(a, b); got != want {
		t.Errorf("%s: Cheaper(%v, %v) = %d, not %d", name, a, b, got, want)
	}
	if got := impl.Cheaper(b, a); got != -want {
		t.Errorf("%s, the other way round: Cheaper(%v, %v) = %d, not %d", name, b, a, got, -want)
	}
}

func TestCheaper(t *testing.T) {
	for _, c := range []struct {
		name string
		a, b []int
		want int
	}{
		{"two empty ones", nil, nil, 0},
		{"nil and an empty one", nil, []int{}, 0},
		{"one empty", nil, []int{0}, -1},
		{"one empty, the other below 0", nil, []int{-5}, -1},
		{"one empty, the other one long", []int{}, []int{-1, -2, -3}, -1},
		{"the same", []int{3}, []int{3}, 0},
		{"the same, more", []int{3, -1, 0}, []int{3, -1, 0}, 0},
		{"the front of the other", []int{3}, []int{3, 0}, -1},
		{"the front of the other, which goes on below 0", []int{3, 4}, []int{3, 4, -9, -9}, -1},
		{"the first place", []int{1}, []int{2}, -1},
		{"the first place, below 0", []int{-2}, []int{-1}, -1},
		{"the first place, on both sides of 0", []int{-1}, []int{1}, -1},
		{"the first place, 0", []int{-1}, []int{0}, -1},
		{"a later place", []int{5, 5, 1}, []int{5, 5, 2}, -1},
		{"the first place, the opposite behind it", []int{1, 9}, []int{2, 3}, -1},
		{"the first place, more of the opposite behind it", []int{1, 1000, 9, 9}, []int{2, 0, 0, 0}, -1},
		{"a later place, the opposite behind it", []int{5, 1, 9}, []int{5, 2, 3}, -1},
		{"a later place, below 0, the opposite behind it", []int{-5, -3, 9}, []int{-5, -2, -9}, -1},
		{"the first place, and the one is longer", []int{1, 0, 0}, []int{2}, -1},
		{"a later place, and the one is longer", []int{5, 1, 0}, []int{5, 2}, -1},
		{"the first place, and the one is shorter", []int{1}, []int{2, 0}, -1},
		{"the greatest and the least number", []int{math.MinInt}, []int{math.MaxInt}, -1},
		{"the least number and 0", []int{math.MinInt}, []int{0}, -1},
		{"the least number and one more", []int{math.MinInt}, []int{math.MinInt + 1}, -1},
		{"the greatest number and -2", []int{-2}, []int{math.MaxInt}, -1},
		{"of which 32 bits are the same", []int{1}, []int{1<<32 + 1}, -1},
		{"more places than Levels", append(times(50, 7), 1), append(times(50, 7), 2), -1},
		{"far more places, the same", times(1000, -7), times(1000, -7), 0},
	} {
		checkCheaper(t, c.name, c.a, c.b, c.want)
	}
}

// TestCheaperOfShortLists: all lists of up to three numbers of -1 .. 1, against each other.
func TestCheaperOfShortLists(t *testing.T) {
	var short [][]int
	for n := range 4 {
		for num := range power(n, 3) {
			row := valuesNum(num, n)
			for i := range row {
				row[i]--
			}
			short = append(short, row)
		}
	}
	if len(short) != 40 {
		t.Fatalf("there are %d lists", len(short))
	}
	for _, a := range short {
		for _, b := range short {
			checkCheaper(t, "short", a, b, cheaperBy(a, b))
		}
	}
}

// checkOptimal fails where other costs are the least, or other answers cost them.
func checkOptimal(t *testing.T, name string, p impl.Prog, costs string, sets ...string) {
	t.Helper()
	best, ok := impl.Optimal(p)
	if !ok || textOf(best.Costs) != costs || !slices.Equal(textsOf(best.Sets), sets) {
		t.Errorf("%s: Optimal(%+v) = %+v, %v, not %s of %q", name, p, best, ok, costs, sets)
	}
}

func checkNoOptimal(t *testing.T, name string, p impl.Prog) {
	t.Helper()
	if best, ok := impl.Optimal(p); ok || len(best.Costs) > 0 || len(best.Sets) > 0 {
		t.Errorf("%s: Optimal(%+v) = %+v, %v", name, p, best, ok)
	}
}

func TestOptimal(t *testing.T) {
	three := []impl.Rule{plain(1, -2, -3), plain(2, -1, -3), plain(3, -1, -2)}
	pairs := []impl.Rule{choice([]int{1, 2, 3, 4}), weighed(nil, 3, body(1, 2, 3, 4)...), weighed(nil, 3, body(-1, -2, -3, -4)...)}
	for _, c := range []struct {
		name   string
		rules  []impl.Rule
		levels []impl.Level
		costs  string
		sets   []string
	}{
		{"one answer", []impl.Rule{plain(2)}, []impl.Level{level(0, wl(2, 5))}, "5", []string{"2"}},
		{"one answer, the empty set", nil, []impl.Level{level(0, wl(2, 5))}, "0", []string{""}},
		{"one answer that costs far above 0", []impl.Rule{plain(2)}, []impl.Level{level(0, times(20, wl(2, 1000))...)}, "20000", []string{"2"}},
		{"no Levels, one answer", []impl.Rule{plain(2)}, nil, "", []string{"2"}},
		{"no Levels, some answers", three, nil, "", []string{"1", "2", "3"}},
		{"no Levels, an empty list", three, []impl.Level{}, "", []string{"1", "2", "3"}},
		{"a level without Lits", three, []impl.Level{level(0)}, "0", []string{"1", "2", "3"}},
		{"two levels without Lits", three, []impl.Level{level(0), level(1)}, "0 0", []string{"1", "2", "3"}},
		{"the first costs the least", three, []impl.Level{level(0, wl(1, 1), wl(2, 2), wl(3, 3))}, "1", []string{"1"}},
		{"the middle one costs the least", three, []impl.Level{level(0, wl(1, 2), wl(2, 1), wl(3, 3))}, "1", []string{"2"}},
		{"the last costs the least", three, []impl.Level{level(0, wl(1, 2), wl(2, 3), wl(3, 1))}, "1", []string{"3"}},
		{"the last costs the least, falling", three, []impl.Level{level(0, wl(1, 3), wl(2, 2), wl(3, 1))}, "1", []string{"3"}},
		{"the first two", three, []impl.Level{level(0, wl(3, 1))}, "0", []string{"1", "2"}},
		{"the last two", three, []impl.Level{level(0, wl(1, 1))}, "0", []string{"2", "3"}},
		{"the first and the last", three, []impl.Level{level(0, wl(2, 1))}, "0", []string{"1", "3"}},
		{"all", three, []impl.Level{level(0, wl(1, 4), wl(2, 4), wl(3, 4))}, "4", []string{"1", "2", "3"}},
		{"all, by what they lack", three, []impl.Level{level(0, wl(-1, 4), wl(-2, 4), wl(-3, 4))}, "8", []string{"1", "2", "3"}},
		{"by what one lacks", three, []impl.Level{level(0, wl(-2, 4))}, "0", []string{"2"}},
		{"W 0", three, []impl.Level{level(0, wl(1, 0), wl(-2, 0))}, "0", []string{"1", "2", "3"}},
		{"below 0", three, []impl.Level{level(0, wl(2, -3))}, "-3", []string{"2"}},
		{"below 0, by what two lack", three, []impl.Level{level(0, wl(-2, -3))}, "-3", []string{"1", "3"}},
		{"all below 0", three, []impl.Level{level(0, wl(1, -3), wl(2, -2), wl(3, -3))}, "-3", []string{"1", "3"}},
		{"on both sides of 0", three, []impl.Level{level(0, wl(1, 3), wl(2, -1), wl(3, -2))}, "-2", []string{"3"}},
		{"the first level outweighs the second", three, []impl.Level{level(1, wl(1, 900), wl(2, -900)), level(2, wl(2, 1), wl(3, 1))}, "0 900", []string{"1"}},
		{"the second level tells alike ones apart", three, []impl.Level{level(1, wl(1, 2), wl(2, 1)), level(2, wl(3, 1))}, "0 1", []string{"2"}},
		{"the second level leaves some alike", three, []impl.Level{level(1, wl(1, 2), wl(2, 2)), level(2, wl(3, 1))}, "0 2", []string{"1", "2"}},
		{"the last of three levels tells", three, []impl.Level{level(-1, wl(2, -1)), level(0, wl(4, 7)), level(5, wl(3, 1))}, "0 0 -1", []string{"2"}},
		{"by P, not by sums", three, []impl.Level{level(1, wl(1, -1000)), level(2, wl(2, -1))}, "-1 0", []string{"2"}},
		{"the least number of atoms", pairs, []impl.Level{level(0, body(1, 2, 3, 4)...)}, "2", []string{"1 2", "1 3", "2 3", "1 4", "2 4", "3 4"}},
		{"pairs with one or the other", pairs, []impl.Level{level(0, wl(1, 1), wl(4, -1))}, "-1", []string{"2 4", "3 4"}},
		{"pairs apart in the list", pairs, []impl.Level{level(0, wl(2, 1), wl(3, 1), wl(1, 2), wl(4, 2))}, "2", []string{"2 3"}},
		{"pairs, the first and the last", pairs, []impl.Level{level(0, wl(1, 1), wl(3, 5)), level(1, wl(1, 1), wl(2, 1), wl(3, 2), wl(4, 2))}, "2 1", []string{"1 2"}},
		{"what costs the least is no answer", three, []impl.Level{level(0, body(1, 2, 3, 4)...)}, "1", []string{"1", "2", "3"}},
		{"what costs the least is unfounded", with(loop(1, 2), plain(3, -1)), []impl.Level{level(0, wl(1, -9), wl(3, 1))}, "1", []string{"3"}},
		{"a choice of all", []impl.Rule{choice([]int{1, 2, 3})}, []impl.Level{level(0, wl(1, 1), wl(2, 0), wl(3, -1))}, "-1", []string{"3", "2 3"}},
	} {
		checkOptimal(t, c.name, impl.Prog{Atoms: 4, Rules: c.rules, Levels: c.levels}, c.costs, c.sets...)
	}
}

func TestOptimalWithoutAnswers(t *testing.T) {
	for name, rules := range map[string][]impl.Rule{
		"an odd circle":              {plain(1, -1)},
		"a constraint of no literal": {choice([]int{1, 2}), constraint()},
		"a constraint of each":       {choice([]int{1}), constraint(1), constraint(-1)},
		"Bound 0":                    {weighed(nil, 0)},
	} {
		for _, levels := range [][]impl.Level{nil, {level(0)}, {level(-1, wl(1, -5)), level(2, wl(-1, 3))}} {
			checkNoOptimal(t, name, impl.Prog{Atoms: 2, Rules: rules, Levels: levels})
		}
	}
}

func TestOptimalOfNoAtoms(t *testing.T) {
	checkOptimal(t, "the zero program", impl.Prog{}, "", "")
	checkOptimal(t, "a level", impl.Prog{Levels: []impl.Level{level(3)}}, "0", "")
	checkOptimal(t, "two levels", impl.Prog{Levels: []impl.Level{level(3), level(4)}}, "0 0", "")
	checkNoOptimal(t, "no answers", impl.Prog{Rules: []impl.Rule{constraint()}, Levels: []impl.Level{level(3)}})
}

// TestOptimalOfExtsAndWhatIsAssumed: the answers are those of Fold, and what is hidden or shown changes nothing.
func TestOptimalOfExtsAndWhatIsAssumed(t *testing.T) {
	levels := []impl.Level{level(0, wl(3, -1)), level(1, wl(1, 2), wl(2, 3))}
	for _, c := range []struct {
		name   string
		exts   []impl.Ext
		assume []int
		costs  string
		sets   []string
	}{
		{"neither", nil, nil, "2 0", []string{"1"}},
		{"V 0", []impl.Ext{{Atom: 3}}, nil, "2 -1", []string{"1 3"}},
		{"V 1", []impl.Ext{{Atom: 3, V: 1}}, nil, "2 -1", []string{"1 3"}},
		{"V 2", []impl.Ext{{Atom: 3, V: 2}}, nil, "2 0", []string{"1"}},
		{"V 0 that costs nothing", []impl.Ext{{Atom: 4}}, nil, "2 0", []string{"1", "1 4"}},
		{"V 1 of a head", []impl.Ext{{Atom: 2, V: 1}}, nil, "2 0", []string{"1"}},
		{"assumed", nil, []int{2}, "3 0", []string{"2"}},
		{"assumed below 0", nil, []int{-1}, "3 0", []string{"2"}},
		{"assumed, what costs the least", nil, []int{1}, "2 0", []string{"1"}},
		{"V 0, and assumed", []impl.Ext{{Atom: 3}}, []int{-3, 2}, "3 0", []string{"2"}},
		{"V 0, which lets another one be", []impl.Ext{{Atom: 3}, {Atom: 4}}, []int{4}, "2 -1", []string{"1 3 4"}},
	} {
		p := impl.Prog{Atoms: 4, Rules: either(1, 2), Levels: levels, Exts: c.exts, Assume: c.assume}
		checkOptimal(t, c.name, p, c.costs, c.sets...)
		p.ProjOn, p.Project = true, []int{4}
		p.Shows = []impl.Show{{Text: "a", Cond: []int{1}}}
		checkOptimal(t, c.name+", hidden", p, c.costs, c.sets...)
	}
	p := impl.Prog{Atoms: 4, Rules: either(1, 2), Levels: levels, Exts: []impl.Ext{{Atom: 3, V: 2}}, Assume: []int{3}}
	checkNoOptimal(t, "V 2, and assumed", p)
}

func TestOptimalOfMaxAtoms(t *testing.T) {
	all := open(12)
	if best, ok := impl.Optimal(all); !ok || len(best.Costs) > 0 || !alike(best.Sets, impl.Answers(all)) {
		t.Errorf("without Levels %d of all sets are the best, %v", len(best.Sets), ok)
	}
	all.Levels = []impl.Level{level(0, wl(12, 1), wl(1, -1))}
	best, ok := impl.Optimal(all)
	if nums := numsOf(best.Sets); !ok || textOf(best.Costs) != "-1" || len(nums) != 1024 || nums[0] != 1 || nums[1023] != 2047 || !slices.IsSorted(nums) {
		t.Errorf("of all sets there are %d best ones, with %v", len(nums), best.Costs)
	}
	all.Levels = append(all.Levels, level(1, times(12, wl(-12, 1000))...), level(2, wl(1, 1), wl(2, 1)))
	all.Levels = append(all.Levels, level(3, body(-3, -4, -5, -6, -7, -8, -9, -10, -11)...))
	checkOptimal(t, "four levels", all, "0 0 0 1", "3 4 5 6 7 8 9 10 11 12")
	all.Levels = all.Levels[:3]
	all.Levels[2].Lits = append(all.Levels[2].Lits, body(3, 4, 5, 6, 7, 8, 9, 10)...)
	checkOptimal(t, "three levels", all, "0 0 1", "12", "11 12")
}

// costly is a program, with all that a program has, of which there are answers.
func costly() impl.Prog {
	p := wholeProg()
	p.Rules = append(p.Rules, plain(9), plain(1))
	p.Exts = []impl.Ext{{Atom: 5, V: 2}, {Atom: 8}}
	p.Assume = []int{9, 1}
	p.Levels = []impl.Level{level(-1, wl(2, -3), wl(8, 4)), level(4, wl(-3, 2), wl(5, 0))}
	return p
}

// noCosts are changes of costly that leave it no longer ProgOk.
func noCosts() map[string]func(p *impl.Prog) {
	changes := noProgs()
	for name, change := range map[string]func(p *impl.Prog){
		"levels passed by one":         func(p *impl.Prog) { p.Levels = rankedProg(7).Levels },
		"falling levels":               func(p *impl.Prog) { p.Levels[1].P = -2 },
		"P passed by one":              func(p *impl.Prog) { p.Levels[1].P = 100001 },
		"P below by one":               func(p *impl.Prog) { p.Levels[0].P = -100001 },
		"W passed by one":              func(p *impl.Prog) { p.Levels[0].Lits[0].W = 1001 },
		"W below by one":               func(p *impl.Prog) { p.Levels[0].Lits[0].W = -1001 },
		"the least number as W":        func(p *impl.Prog) { p.Levels[0].Lits[0].W = math.MinInt },
		"a literal 0 of a level":       func(p *impl.Prog) { p.Levels[1].Lits[1].L = 0 },
		"a literal above of a level":   func(p *impl.Prog) { p.Levels[1].Lits[1].L = 10 },
		"a literal below of a level":   func(p *impl.Prog) { p.Levels[1].Lits[0].L = -10 },
		"more than MaxBody of a level": func(p *impl.Prog) { p.Levels[0].Lits = times(21, wl(2, -3)) },
	} {
		changes[name] = change
	}
	return changes
}

// checkNoCosts fails where something is told of the costs of p.
func checkNoCosts(t *testing.T, name string, p impl.Prog) {
	t.Helper()
	for _, x := range append(slices.Clone(lists), []int{2, 9}, []int{1, 2, 9}) {
		checkCosts(t, name, p, x, "")
	}
	checkNoOptimal(t, name, p)
	for n := range 9 {
		checkNotBounded(t, name, p, times(n, 0))
		checkNotBounded(t, name, p, times(n, 5))
	}
	checkNotBounded(t, name, p, times(len(p.Levels), -5))
}

// TestCostsOfNoProgram: of each something would be told, but for one change.
func TestCostsOfNoProgram(t *testing.T) {
	p := costly()
	checkOptimal(t, "without a change", p, "0 -3", "1 2 3 9")
	checkCosts(t, "without a change", p, []int{2, 8}, "2 1")
	checkBounded(t, "without a change", p, []int{0, 0}, weighed(nil, 1, wl(-3, 2)), weighed(nil, 4, wl(-2, 3), wl(8, 4)))
	for name, change := range noCosts() {
		p := costly()
		change(&p)
		checkNoCosts(t, name, p)
	}
	for _, p := range append(odd(), impl.Prog{Atoms: -1}, impl.Prog{Atoms: 13}, impl.Prog{Atoms: math.MinInt}, impl.Prog{Atoms: math.MaxInt}) {
		if !impl.ProgOk(p) {
			checkNoCosts(t, "an odd program", p)
		}
	}
}

// checkBounded fails where p with costs is not p with those rules behind its own.
func checkBounded(t *testing.T, name string, p impl.Prog, costs []int, rules ...impl.Rule) {
	t.Helper()
	want := deepCopy(p)
	want.Rules = with(want.Rules, rules...)
	got, ok := impl.Bounded(p, costs)
	if !ok || !alike(got, want) {
		t.Errorf("%s: Bounded(%+v, %v) = %+v, %v, not %+v", name, p, costs, got, ok, want)
	}
	if !impl.ProgOk(got) {
		t.Errorf("%s: Bounded(%+v, %v) = %+v, which is not ProgOk", name, p, costs, got)
	}
}

func checkNotBounded(t *testing.T, name string, p impl.Prog, costs []int) {
	t.Helper()
	if got, ok := impl.Bounded(p, costs); ok || !alike(got, impl.Prog{}) {
		t.Errorf("%s: Bounded(%+v, %v) = %+v, %v", name, p, costs, got, ok)
	}
}

// TestBoundedOfOneLevel: the rule that one level comes to, with a cost.
func TestBoundedOfOneLevel(t *testing.T) {
	for _, c := range []struct {
		name string
		row  []impl.WLit
		cost int
		want impl.Rule
	}{
		{"no Lits", nil, 0, weighed(nil, 1)},
		{"no Lits, a cost above 0", nil, 7, weighed(nil, 8)},
		{"no Lits, a cost below 0", nil, -1, weighed(nil, 0)},
		{"no Lits, a cost further below 0", nil, -7, weighed(nil, -6)},
		{"an empty list of Lits", []impl.WLit{}, 3, weighed(nil, 4)},
		{"above 0, W above 0", []impl.WLit{wl(2, 5)}, 3, weighed(nil, 4, wl(2, 5))},
		{"below 0, W above 0", []impl.WLit{wl(-2, 5)}, 3, weighed(nil, 4, wl(-2, 5))},
		{"above 0, W below 0", []impl.WLit{wl(2, -5)}, 3, weighed(nil, 9, wl(-2, 5))},
		{"below 0, W below 0", []impl.WLit{wl(-2, -5)}, 3, weighed(nil, 9, wl(2, 5))},
		{"above 0, W below 0, a cost below 0", []impl.WLit{wl(2, -5)}, -5, weighed(nil, 1, wl(-2, 5))},
		{"above 0, W below 0, a cost below that", []impl.WLit{wl(2, -5)}, -6, weighed(nil, 0, wl(-2, 5))},
		{"above 0, W 0", []impl.WLit{wl(2, 0)}, 3, weighed(nil, 4)},
		{"below 0, W 0", []impl.WLit{wl(-2, 0)}, 3, weighed(nil, 4)},
		{"W 0 between others", []impl.WLit{wl(1, 2), wl(3, 0), wl(2, 4)}, 3, weighed(nil, 4, wl(1, 2), wl(2, 4))},
		{"W 0 first and last", []impl.WLit{wl(3, 0), wl(1, 2), wl(-3, 0)}, 3, weighed(nil, 4, wl(1, 2))},
		{"all kinds", []impl.WLit{wl(4, 1), wl(-3, -20), wl(-2, 300), wl(1, -1000), wl(3, 0)}, 7, weighed(nil, 1028, wl(4, 1), wl(3, 20), wl(-2, 300), wl(-1, 1000))},
		{"all kinds, a cost below 0", []impl.WLit{wl(4, 1), wl(-3, -20), wl(-2, 300)}, -7, weighed(nil, 14, wl(4, 1), wl(3, 20), wl(-2, 300))},
		{"the order of Lits", []impl.WLit{wl(4, 1), wl(-4, 2), wl(2, 3), wl(1, 4)}, 0, weighed(nil, 1, wl(4, 1), wl(-4, 2), wl(2, 3), wl(1, 4))},
		{"a literal twice", []impl.WLit{wl(2, 3), wl(1, 1), wl(2, 3)}, 0, weighed(nil, 1, wl(2, 3), wl(1, 1), wl(2, 3))},
		{"a literal twice, of both signs of W", []impl.WLit{wl(2, 3), wl(2, -4)}, 0, weighed(nil, 5, wl(2, 3), wl(-2, 4))},
		{"both of an atom", []impl.WLit{wl(2, -3), wl(-2, -4)}, 0, weighed(nil, 8, wl(-2, 3), wl(2, 4))},
		{"MaxBody Lits of MaxW", times(20, wl(1, 1000)), 19999, weighed(nil, 20000, times(20, wl(1, 1000))...)},
		{"MaxBody Lits of -MaxW", times(20, wl(1, -1000)), -20000, weighed(nil, 1, times(20, wl(-1, 1000))...)},
	} {
		p := impl.Prog{Atoms: 4, Levels: []impl.Level{level(-3, c.row...)}}
		checkBounded(t, c.name, p, []int{c.cost}, c.want)
		p.Rules = []impl.Rule{plain(1, -2), constraint(), weighed([]int{3}, 2, wl(1, 2))}
		checkBounded(t, c.name+", behind rules", p, []int{c.cost}, c.want)
		// The body holds in just the sets that cost more.
		for num := range 1 << 4 {
			x := impl.SetOf(num)
			if more := costsBy(p, x)[0] > c.cost; impl.BodyHolds(c.want, x) != more {
				t.Errorf("%s: that %v costs more than %d is %v, but of the rule %v", c.name, x, c.cost, more, !more)
			}
		}
	}
}

func TestBoundedOfLevels(t *testing.T) {
	two := impl.Prog{Atoms: 4, Rules: either(1, 2), Levels: []impl.Level{level(-1, wl(1, 2)), level(3, wl(-2, -4), wl(3, 1))}}
	checkBounded(t, "two levels", two, []int{5, 7}, weighed(nil, 10, wl(2, 4), wl(3, 1)), weighed(nil, 8, wl(1, 2)))
	checkBounded(t, "two levels, costs below 0", two, []int{-5, -7}, weighed(nil, 0, wl(2, 4), wl(3, 1)), weighed(nil, -6, wl(1, 2)))
	checkBounded(t, "no levels", impl.Prog{Atoms: 2, Rules: either(1, 2)}, nil)
	checkBounded(t, "no levels, empty lists", impl.Prog{Atoms: 2, Levels: []impl.Level{}}, []int{})
	checkBounded(t, "the zero program", impl.Prog{}, nil)
	checkBounded(t, "a level of no atoms", impl.Prog{Levels: []impl.Level{level(0)}}, []int{-1}, weighed(nil, 0))
	for n := range 7 {
		p := rankedProg(n)
		var costs []int
		var rules []impl.Rule
		for k := range n {
			costs = append(costs, 100+k)
			place := n - 1 - k
			rules = append(rules, weighed(nil, 101+k, wl(place+1, place+1), wl(-place-7, 50)))
		}
		checkBounded(t, "each number of levels", p, costs, rules...)
		for many := range 14 {
			if many != n {
				checkNotBounded(t, "fewer or more costs", p, times(many, 0))
			}
		}
		checkNotBounded(t, "far more costs", p, times(1000, 0))
	}
}

// TestBoundedLeavesTheRest: nothing of a program but its rules is another one.
func TestBoundedLeavesTheRest(t *testing.T) {
	p := costly()
	got, ok := impl.Bounded(p, []int{1, -3})
	if !ok || len(got.Rules) != len(p.Rules)+2 || !alike(got.Rules[:len(p.Rules)], p.Rules) {
		t.Fatalf("Bounded(%+v) = %+v, %v", p, got, ok)
	}
	got.Rules = p.Rules
	if !alike(got, p) {
		t.Errorf("but for its rules Bounded(%+v) = %+v", p, got)
	}
	checkBounded(t, "all of it", p, []int{1, -3}, weighed(nil, 2, wl(-3, 2)), weighed(nil, 1, wl(-2, 3), wl(8, 4)))
}

func TestBoundedAtItsLimits(t *testing.T) {
	heavy := times(20, wl(1, -1000))
	for _, c := range []struct {
		name  string
		row   []impl.WLit
		cost  int
		bound int
	}{
		{"the least cost", nil, -100000, -99999},
		{"the least cost, W below 0", heavy, -100000, -79999},
		{"the greatest Bound", nil, 99999, 100000},
		{"the greatest Bound, W above 0", []impl.WLit{wl(1, 1000)}, 99999, 100000},
		{"the greatest Bound, W 0", []impl.WLit{wl(1, 0)}, 99999, 100000},
		{"the greatest Bound, W -1", []impl.WLit{wl(1, -1)}, 99998, 100000},
		{"the greatest Bound, all W below 0", heavy, 79999, 100000},
	} {
		p := impl.Prog{Atoms: 1, Levels: []impl.Level{level(0, c.row...)}}
		got, ok := impl.Bounded(p, []int{c.cost})
		if !ok || len(got.Rules) != 1 || got.Rules[0].Bound != c.bound || !impl.ProgOk(got) {
			t.Errorf("%s: Bounded(%+v, %d) = %+v, %v", c.name, p, c.cost, got, ok)
		}
		if c.bound == 100000 {
			checkNotBounded(t, c.name+", one more", p, []int{c.cost + 1})
		} else {
			checkNotBounded(t, c.name+", one less", p, []int{c.cost - 1})
		}
	}
	empty := impl.Prog{Atoms: 1, Levels: []impl.Level{level(0)}}
	for _, cost := range []int{100000, 100001, 1 << 32, 1<<32 + 5, math.MaxInt, math.MaxInt - 1, -100001, -1 << 32, math.MinInt, math.MinInt + 1} {
		checkNotBounded(t, "a cost out of range", empty, []int{cost})
		three := impl.Prog{Atoms: 1, Levels: []impl.Level{level(0, heavy...), level(1, wl(1, 1)), level(2)}}
		for k := range 3 {
			costs := []int{1, 2, 3}
			checkBounds(t, three, costs, true)
			costs[k] = cost
			checkBounds(t, three, costs, false)
		}
	}
	three := impl.Prog{Atoms: 1, Levels: []impl.Level{level(0, heavy...), level(1, wl(1, -1)), level(2)}}
	checkBounds(t, three, []int{99999, 99998, 79999}, true)
	for k := range 3 {
		costs := []int{99999, 99998, 79999}
		costs[k]++
		checkBounds(t, three, costs, false)
	}
}

// checkBounds fails where costs bound p, or do not, other than is wanted.
func checkBounds(t *testing.T, p impl.Prog, costs []int, want bool) {
	t.Helper()
	if !want {
		checkNotBounded(t, "one cost of several", p, costs)
	} else if got, ok := impl.Bounded(p, costs); !ok || len(got.Rules) != len(p.Rules)+len(costs) {
		t.Errorf("Bounded(%+v, %v) = %+v, %v", p, costs, got, ok)
	}
}

// TestCostsAndRoom: just MaxRules rules are there, or one more; Fold is not asked by CostsOf and Bounded, but by Optimal.
func TestCostsAndRoom(t *testing.T) {
	three := []impl.Level{level(0, wl(1, 1)), level(1, wl(12, -2)), level(2)}
	for _, c := range []struct {
		name    string
		rules   int
		levels  []impl.Level
		exts    []impl.Ext
		assume  []int
		best    string
		bounded bool
		after   bool // whether Fold of what is bounded is true
	}{
		{"MaxRules rules, no Levels", 60, nil, nil, nil, "12", true, true},
		{"MaxRules rules, one Level", 60, three[:1], nil, nil, "12", false, false},
		{"one less, one Level", 59, three[:1], nil, nil, "12", true, true},
		{"room for three", 57, three, nil, nil, "12", true, true},
		{"room for two of three", 58, three, nil, nil, "12", false, false},
		{"room for none of three", 60, three, nil, nil, "12", false, false},
		{"room for three and V 1", 56, three, []impl.Ext{{Atom: 1, V: 1}}, nil, "1 12", true, true},
		{"room for three, not for V 1", 57, three, []impl.Ext{{Atom: 1, V: 1}}, nil, "1 12", true, false},
		{"room for three, and V 2", 57, three, []impl.Ext{{Atom: 1, V: 2}}, nil, "12", true, true},
		{"room for three and what is assumed", 55, three, nil, []int{12, -1}, "12", true, true},
		{"room for three, not for what is assumed", 56, three, nil, []int{12, -1}, "12", true, false},
		{"room for two, and for what is assumed", 58, three, nil, []int{12, -1}, "12", false, false},
		{"no room for what is assumed", 59, nil, nil, []int{12, -1}, "", true, false},
		{"no room for what is assumed, one Level", 59, three[:1], nil, []int{12, -1}, "", true, false},
		{"no room for V 0", 60, nil, []impl.Ext{{Atom: 1}}, nil, "", true, false},
		{"no room for either", 60, three[:1], []impl.Ext{{Atom: 1}}, nil, "", false, false},
	} {
		p := impl.Prog{Atoms: 12, Rules: times(c.rules, plain(12)), Levels: c.levels, Exts: c.exts, Assume: c.assume}
		costs := costsBy(p, []int{1, 12})
		checkCosts(t, c.name, p, []int{1, 12}, textOf(costs))
		if c.best == "" {
			checkNoOptimal(t, c.name, p)
		} else {
			best, ok := impl.Optimal(p)
			if !ok || !slices.Equal(textsOf(best.Sets), []string{c.best}) {
				t.Errorf("%s: Optimal is %+v, %v", c.name, best, ok)
			}
		}
		got, ok := impl.Bounded(p, costs)
		if !c.bounded {
			checkNotBounded(t, c.name, p, costs)
		} else if !ok || len(got.Rules) != c.rules+len(c.levels) {
			t.Errorf("%s: Bounded is %+v, %v", c.name, got, ok)
		}
		if _, folds := impl.Fold(got); ok && folds != c.after {
			t.Errorf("%s: Fold of what is bounded is %v", c.name, folds)
		}
	}
	checkNotBounded(t, "a program at its limits", atLimits(), times(6, 0))
	checkNoOptimal(t, "a program at its limits", atLimits())
}

// someCosts is a program of n atoms with levels of which answers often cost the same, and none of which weighs too much for a bound.
func someCosts(from *rand.Rand, n int) impl.Prog {
	p := someFree(from, n)
	p.Levels = nil
	at, heavy := from.Intn(20)-15, from.Intn(5) == 0
	for range from.Intn(4) + from.Intn(4) {
		at += 1 + from.Intn(6)
		next := impl.Level{P: at}
		for range from.Intn(5) {
			w := wl((1+from.Intn(n))*(1-2*from.Intn(2)), from.Intn(5)-2)
			if heavy {
				w.W *= 500
			}
			next.Lits = append(next.Lits, w)
		}
		p.Levels = append(p.Levels, next)
	}
	return p
}

// TestCostsOfMany: of many programs, and lists that need not be sets, what the definition tells.
func TestCostsOfMany(t *testing.T) {
	from := rand.New(rand.NewSource(50))
	for range 4000 {
		p := someWhole(from, 1+from.Intn(12))
		if from.Intn(2) == 0 {
			p = someCosts(from, 1+from.Intn(12))
		}
		var x []int
		for range from.Intn(16) {
			x = append(x, from.Intn(18)-2)
		}
		checkCosts(t, "one of many", p, x, textOf(costsBy(p, x)))
	}
}

// TestOptimalOfMany: each of the best costs the least, and each that costs as much is listed, in the order of Answers.
func TestOptimalOfMany(t *testing.T) {
	from := rand.New(rand.NewSource(51))
	none, one, some, all, later, negative := 0, 0, 0, 0, 0, 0
	for range 3000 {
		p := someCosts(from, 1+from.Intn(6))
		answers := impl.Answers(p)
		if !slices.Equal(numsOf(answers), answersOfWhole(p)) {
			t.Fatalf("the answers of %+v are %v", p, answers)
		}
		if len(answers) == 0 {
			checkNoOptimal(t, "one of many", p)
			none++
			continue
		}
		least := costsBy(p, answers[0].A)
		for _, s := range answers {
			if costs := costsBy(p, s.A); cheaperBy(costs, least) < 0 {
				least = costs
			}
		}
		var want []string
		firsts := 0
		for _, s := range answers {
			costs := costsBy(p, s.A)
			if slices.Equal(costs, least) {
				want = append(want, textOf(s.A))
			}
			if len(costs) > 0 && costs[0] == least[0] {
				firsts++
			}
		}
		checkOptimal(t, "one of many", p, textOf(least), want...)
		if firsts > len(want) {
			later++
		}
		if slices.ContainsFunc(least, func(cost int) bool { return cost < 0 }) {
			negative++
		}
		switch {
		case len(answers) == 1:
			one++
		case len(want) == len(answers):
			all++
		default:
			some++
		}
	}
	if none < 200 || one < 200 || some < 500 || all < 200 || later < 200 || negative < 500 {
		t.Errorf("the programs are too much alike: %d without answers, %d with one, %d with some and %d with all the best, %d told by a later level, %d below 0", none, one, some, all, later, negative)
	}
}

// nearCosts are costs as one of all sets has them, or nearly.
func nearCosts(from *rand.Rand, p impl.Prog) []int {
	costs := costsBy(p, impl.SetOf(from.Intn(1<<p.Atoms)))
	for k := range costs {
		costs[k] += from.Intn(3) * from.Intn(2)
		costs[k] -= from.Intn(8) / 7
	}
	return costs
}

// TestBoundedOfMany: the answers of what is bounded are those answers that cost no more at any place, and the body of each rule that is added holds in just the sets that cost more there.
func TestBoundedOfMany(t *testing.T) {
	from := rand.New(rand.NewSource(52))
	left, gone, none := 0, 0, 0
	for range 3000 {
		p := someCosts(from, 1+from.Intn(6))
		costs := nearCosts(from, p)
		bounded, ok := impl.Bounded(p, costs)
		if !ok || len(bounded.Rules) != len(p.Rules)+len(costs) {
			t.Fatalf("Bounded(%+v, %v) = %+v, %v", p, costs, bounded, ok)
		}
		for num := range 1 << p.Atoms {
			x := impl.SetOf(num)
			for k, cost := range costsBy(p, x) {
				if impl.BodyHolds(bounded.Rules[len(p.Rules)+k], x) != (cost > costs[k]) {
					t.Fatalf("Bounded(%+v, %v) = %+v, and %v costs %d at place %d", p, costs, bounded, x, cost, k)
				}
			}
		}
		var want []string
		for _, s := range impl.Answers(p) {
			if noMore(costsBy(p, s.A), costs) {
				want = append(want, textOf(s.A))
			} else {
				gone++
			}
		}
		if got := textsOf(impl.Answers(bounded)); !slices.Equal(got, want) {
			t.Fatalf("the answers of Bounded(%+v, %v) are %q, not %q", p, costs, got, want)
		}
		left += len(want)
		if len(want) == 0 {
			none++
		}
	}
	if left < 1000 || gone < 1000 || none < 300 {
		t.Errorf("the costs are too much alike: %d answers left, %d gone, %d programs without any", left, gone, none)
	}
}

// TestBoundedByTheBest: what costs no more than the best at any place is just the best; with less at one place there is nothing that costs as little at all of them.
func TestBoundedByTheBest(t *testing.T) {
	from := rand.New(rand.NewSource(53))
	found, less := 0, 0
	for range 2000 {
		p := someCosts(from, 1+from.Intn(6))
		best, ok := impl.Optimal(p)
		if !ok {
			continue
		}
		bounded, ok := impl.Bounded(p, best.Costs)
		if !ok || !alike(impl.Answers(bounded), best.Sets) {
			t.Fatalf("Optimal(%+v) = %+v, but bounded by it the answers are %v", p, best, impl.Answers(bounded))
		}
		again, ok := impl.Optimal(bounded)
		if !ok || !alike(again, best) {
			t.Fatalf("Optimal(%+v) = %+v, but bounded by it %+v, %v", p, best, again, ok)
		}
		for k := range best.Costs {
			costs := slices.Clone(best.Costs)
			costs[k]--
			fewer, ok := impl.Bounded(p, costs)
			if !ok || impl.Count(fewer) != 0 {
				t.Fatalf("Optimal(%+v) = %+v, but with %v there are %v", p, best, costs, impl.Answers(fewer))
			}
			less++
		}
		found++
	}
	if found < 1000 || less < 1000 {
		t.Errorf("the programs are too much alike: %d with answers, %d places", found, less)
	}
}

// TestCostsAreAlwaysTheSame: however often they are asked, by however many at once.
func TestCostsAreAlwaysTheSame(t *testing.T) {
	p := costly()
	costs := []int{2, 0}
	best, _ := impl.Optimal(p)
	bounded, _ := impl.Bounded(p, costs)
	byMany(20, func() {
		again, ok := impl.Optimal(p)
		other, is := impl.Bounded(p, costs)
		if !ok || !is || !alike(again, best) || !alike(other, bounded) {
			t.Errorf("again: Optimal and Bounded of %+v are %+v and %+v", p, again, other)
		}
		checkCosts(t, "again", p, []int{2, 8}, "2 1")
	})
}

// priced are programs, and what is none, with costs that bound them, and ones that do not.
func priced() []impl.Prog {
	return append(searchable(), costly(), rankedProg(6), rankedProg(7),
		impl.Prog{Atoms: 3, Rules: []impl.Rule{choice([]int{1, 2, 3})}, Levels: []impl.Level{level(0, wl(1, 2), wl(2, 0), wl(-3, -4)), level(1, wl(2, -1)), level(9)}},
		impl.Prog{Atoms: 3, Rules: either(1, 3), Levels: []impl.Level{level(0, wl(1, 1), wl(3, 1)), level(7)}},
	)
}

// pricesOf are costs for p, and ones that do not go with it.
func pricesOf(p impl.Prog) [][]int {
	n := len(p.Levels)
	return [][]int{times(n, 0), times(n, -3), times(n, 90000), times(n, 100000), times(n+1, 2), nil}
}

func TestCostsArgumentsAreKept(t *testing.T) {
	for _, made := range priced() {
		keeping(t, "Optimal", withSpare(made), func(p impl.Prog) { impl.Optimal(p) })
		for i, x := range lists {
			list, other := withSpare(x), withSpare(lists[(i+3)%len(lists)])
			keeping(t, "CostsOf", withSpare(made), func(p impl.Prog) { impl.CostsOf(p, list) })
			impl.Cheaper(list, other)
			impl.Cheaper(other, list)
			checkKept(t, "CostsOf or Cheaper", list, x)
			checkKept(t, "Cheaper", other, lists[(i+3)%len(lists)])
		}
		for _, costs := range pricesOf(made) {
			list := withSpare(costs)
			keeping(t, "Bounded", withSpare(made), func(p impl.Prog) { impl.Bounded(p, list) })
			checkKept(t, "Bounded", list, costs)
		}
	}
}

func TestCostsSpareIsNotRead(t *testing.T) {
	for _, made := range priced() {
		p := withSpare(made)
		one, ok := impl.Optimal(made)
		if two, same := impl.Optimal(p); ok != same || !alike(one, two) {
			t.Errorf("the room behind the lists of %+v is read", made)
		}
		for i, x := range lists {
			y := lists[(i+3)%len(lists)]
			if !slices.Equal(impl.CostsOf(p, withSpare(x)), impl.CostsOf(made, x)) || impl.Cheaper(withSpare(x), withSpare(y)) != impl.Cheaper(x, y) {
				t.Errorf("the room behind the lists of %+v, %v or %v is read", made, x, y)
			}
		}
		for _, costs := range pricesOf(made) {
			one, ok := impl.Bounded(made, costs)
			if two, same := impl.Bounded(p, withSpare(costs)); ok != same || !alike(one, two) {
				t.Errorf("the room behind the lists of %+v or %v is read", made, costs)
			}
		}
	}
	behind := impl.Prog{Atoms: 3, Levels: []impl.Level{level(0, []impl.WLit{wl(1, 1), wl(2, 5)}[:1]...), level(1, wl(3, 1)), level(2, wl(3, 1))}[:2]}
	checkCosts(t, "a literal behind Lits, a Level behind Levels", behind, []int{1, 2, 3}, "1 1")
	checkCosts(t, "an atom behind a list", behind, []int{3, 1}[:1], "1 0")
	checkOptimal(t, "a Level behind Levels", behind, "0 0", "")
	checkBounded(t, "a literal behind Lits, a cost behind costs", behind, []int{4, 5, 6}[:2], weighed(nil, 5, wl(3, 1)), weighed(nil, 6, wl(1, 1)))
	if impl.Cheaper([]int{1, 2}[:1], []int{1, 1}[:1]) != 0 {
		t.Error("what lies behind a list's length is compared")
	}
}

func TestCostsAreNew(t *testing.T) {
	for _, made := range priced() {
		p := withSpare(made)
		all := []any{p}
		for range 2 {
			best, _ := impl.Optimal(p)
			handsOutNothing(t, "Optimal", reflect.ValueOf(best))
			all = append(all, best)
			for _, x := range lists {
				list := withSpare(x)
				costs := impl.CostsOf(p, list)
				handsOutNothing(t, "CostsOf", reflect.ValueOf(costs))
				all = append(all, list, costs)
			}
			for _, costs := range pricesOf(made) {
				list := withSpare(costs)
				bounded, _ := impl.Bounded(p, list)
				handsOutNothing(t, "Bounded", reflect.ValueOf(bounded))
				all = append(all, list, bounded)
			}
		}
		checkApart(t, "chapter 11", all...)
	}
	p := priced()[len(priced())-2]
	for range 2 {
		best, _ := impl.Optimal(p)
		bounded, _ := impl.Bounded(p, []int{0, 0, 0})
		overwrite(best.Costs, -1)
		for _, s := range best.Sets {
			overwrite(s.A, -1)
		}
		overwrite(impl.CostsOf(p, []int{1}), -1)
		for i := range bounded.Levels {
			bounded.Levels[i].P = 0
			clear(bounded.Levels[i].Lits)
		}
		for i := range bounded.Rules {
			clear(bounded.Rules[i].Body)
		}
	}
	checkOptimal(t, "where one is written into", p, "0 -1 -4", "2")
	checkCosts(t, "where one is written into", p, []int{1}, "0 0 -2")
}
