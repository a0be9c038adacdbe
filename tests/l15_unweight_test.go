package tests

import (
	"math"
	"math/rand"
	"reflect"
	"slices"
	"testing"

	"loop.example/g00554/impl"
)

func TestMaxLits(t *testing.T) {
	if impl.MaxLits != 10 {
		t.Errorf("MaxLits is %d", impl.MaxLits)
	}
}

func checkCovers(t *testing.T, name string, r impl.Rule, want ...string) {
	t.Helper()
	list, ok := impl.Covers(r)
	if got := textsOf(list); !ok || !slices.Equal(got, want) {
		t.Errorf("%s: Covers(%+v) = %q, %v, not %q", name, r, got, ok, want)
	}
}

func checkNoCovers(t *testing.T, name string, r impl.Rule) {
	t.Helper()
	if list, ok := impl.Covers(r); ok || len(list) != 0 {
		t.Errorf("%s: Covers(%+v) = %q, %v", name, r, textsOf(list), ok)
	}
}

func checkUnWeight(t *testing.T, name string, p, want impl.Prog) {
	t.Helper()
	if got, ok := impl.UnWeight(p); !ok || !alike(got, want) {
		t.Errorf("%s: UnWeight(%+v) = %+v, %v, not %+v", name, p, got, ok, want)
	}
}

func checkNoUnWeight(t *testing.T, name string, p impl.Prog) {
	t.Helper()
	if got, ok := impl.UnWeight(p); ok || !alike(got, impl.Prog{}) {
		t.Errorf("%s: UnWeight(%+v) = %+v, %v", name, p, got, ok)
	}
}

type coverCase struct {
	name  string
	bound int
	row   []impl.WLit
	want  []string
}

// checkAllCovers asks with Choice and without it, of several Heads and of none.
func checkAllCovers(t *testing.T, cases []coverCase) {
	t.Helper()
	for _, c := range cases {
		checkCovers(t, c.name, weighed(nil, c.bound, c.row...), c.want...)
		checkCovers(t, c.name+", with a head", weighed([]int{12}, c.bound, c.row...), c.want...)
		checkCovers(t, c.name+", with a head of the body", weighed([]int{1}, c.bound, c.row...), c.want...)
		checkCovers(t, c.name+", with Choice", weighedChoice([]int{7}, c.bound, c.row...), c.want...)
		checkCovers(t, c.name+", with Choice of all atoms", weighedChoice(impl.SetOf(4095), c.bound, c.row...), c.want...)
	}
}

func TestCoversByBound(t *testing.T) {
	row := []impl.WLit{wl(1, 1), wl(2, 2), wl(-3, 3)}
	checkAllCovers(t, []coverCase{
		{"Bound 0", 0, row, []string{""}},
		{"Bound below 0", -1, row, []string{""}},
		{"the least Bound", -100000, row, []string{""}},
		{"Bound 1", 1, row, []string{"1", "2", "3"}},
		{"Bound 2", 2, row, []string{"2", "3"}},
		{"Bound 3", 3, row, []string{"1 2", "3"}},
		{"Bound 4", 4, row, []string{"1 3", "2 3"}},
		{"Bound 5", 5, row, []string{"2 3"}},
		{"a Bound that is just reached", 6, row, []string{"1 2 3"}},
		{"a Bound that is missed by 1", 7, row, nil},
		{"a Bound that is never reached", 1000, row, nil},
		{"the greatest Bound", 100000, row, nil},
		{"nothing, Bound 0", 0, nil, []string{""}},
		{"an empty list, Bound 0", 0, []impl.WLit{}, []string{""}},
		{"nothing, Bound below 0", -1, nil, []string{""}},
		{"nothing, the least Bound", -100000, nil, []string{""}},
		{"nothing, Bound 1", 1, nil, nil},
		{"nothing, the greatest Bound", 100000, nil, nil},
		{"one literal, Bound 0", 0, []impl.WLit{wl(5, 4)}, []string{""}},
		{"one literal, Bound 1", 1, []impl.WLit{wl(5, 4)}, []string{"1"}},
		{"one literal, just reached", 4, []impl.WLit{wl(5, 4)}, []string{"1"}},
		{"one literal, missed by 1", 5, []impl.WLit{wl(5, 4)}, nil},
		{"one literal below 0, just reached", 4, []impl.WLit{wl(-5, 4)}, []string{"1"}},
		{"one literal below 0, missed by 1", 5, []impl.WLit{wl(-5, 4)}, nil},
	})
}

// TestCoversThatAreEnoughWithLess: a set of which any one can be left out is no cover, also where the others cannot be.
func TestCoversThatAreEnoughWithLess(t *testing.T) {
	checkAllCovers(t, []coverCase{
		{"the first can be left out", 3, []impl.WLit{wl(1, 1), wl(2, 3)}, []string{"2"}},
		{"the last can be left out", 3, []impl.WLit{wl(1, 3), wl(2, 1)}, []string{"1"}},
		{"the one between can be left out", 4, []impl.WLit{wl(1, 2), wl(2, 1), wl(3, 2)}, []string{"1 3"}},
		{"each one can be left out", 1, []impl.WLit{wl(1, 1), wl(2, 1), wl(3, 1)}, []string{"1", "2", "3"}},
		{"just enough without the least", 5, []impl.WLit{wl(1, 1), wl(2, 3), wl(3, 2)}, []string{"2 3"}},
		{"one short without the least", 6, []impl.WLit{wl(1, 1), wl(2, 3), wl(3, 2)}, []string{"1 2 3"}},
		{"one alone, or many without it", 4, []impl.WLit{wl(1, 1), wl(2, 1), wl(3, 1), wl(4, 1), wl(5, 4)}, []string{"1 2 3 4", "5"}},
		{"the same, the great one first", 4, []impl.WLit{wl(1, 4), wl(2, 1), wl(3, 1), wl(4, 1), wl(5, 1)}, []string{"1", "2 3 4 5"}},
		{"more than is asked for, but by each", 5, []impl.WLit{wl(1, 4), wl(2, 4), wl(3, 4)}, []string{"1 2", "1 3", "2 3"}},
		{"some more than is asked for, some just as much", 4, []impl.WLit{wl(1, 3), wl(2, 3), wl(3, 1)}, []string{"1 2", "1 3", "2 3"}},
		{"below 0, the first can be left out", 3, []impl.WLit{wl(-1, 1), wl(-2, 3)}, []string{"2"}},
	})
}

// TestCoversAreInOrder: that with the less number first, however many literals it has.
func TestCoversAreInOrder(t *testing.T) {
	checkAllCovers(t, []coverCase{
		{"one of four", 1, body(1, 2, 3, 4), []string{"1", "2", "3", "4"}},
		{"two of four", 2, body(1, 2, 3, 4), []string{"1 2", "1 3", "2 3", "1 4", "2 4", "3 4"}},
		{"three of four", 3, body(1, 2, 3, 4), []string{"1 2 3", "1 2 4", "1 3 4", "2 3 4"}},
		{"four of four", 4, body(1, 2, 3, 4), []string{"1 2 3 4"}},
		{"two of five, below 0", 2, body(-3, -5, -6, -8, -12), []string{"1 2", "1 3", "2 3", "1 4", "2 4", "3 4", "1 5", "2 5", "3 5", "4 5"}},
		{"more of them first", 3, []impl.WLit{wl(1, 1), wl(2, 1), wl(3, 1), wl(4, 2), wl(5, 3)}, []string{"1 2 3", "1 4", "2 4", "3 4", "5"}},
		{"less of them first", 3, []impl.WLit{wl(1, 3), wl(2, 2), wl(3, 1), wl(4, 1), wl(5, 1)}, []string{"1", "2 3", "2 4", "2 5", "3 4 5"}},
		{"the great ones between", 4, []impl.WLit{wl(1, 1), wl(2, 3), wl(3, 2), wl(4, 2)}, []string{"1 2", "2 3", "2 4", "3 4"}},
	})
}

// TestCoversHavePlaces: places are counted from 1 by atoms, whatever the order of the body, of one atom that without a - first.
func TestCoversHavePlaces(t *testing.T) {
	checkAllCovers(t, []coverCase{
		{"falling", 3, []impl.WLit{wl(9, 1), wl(5, 2), wl(2, 3)}, []string{"1", "2 3"}},
		{"the atom counts, not the literal", 3, []impl.WLit{wl(-9, 1), wl(5, 2), wl(-2, 3)}, []string{"1", "2 3"}},
		{"not the W", 3, []impl.WLit{wl(2, 1), wl(3, 3), wl(1, 2)}, []string{"1 2", "3"}},
		{"two digits", 3, []impl.WLit{wl(12, 1), wl(2, 2), wl(-10, 1), wl(9, 3)}, []string{"2", "1 3", "1 4"}},
		{"atoms far apart", 2, []impl.WLit{wl(12, 1), wl(1, 1)}, []string{"1 2"}},
		{"both literals of an atom, that below 0 first", 2, []impl.WLit{wl(-4, 1), wl(4, 2)}, []string{"1"}},
		{"both literals of an atom, that above 0 first", 2, []impl.WLit{wl(4, 2), wl(-4, 1)}, []string{"1"}},
		{"the one below 0 alone", 2, []impl.WLit{wl(4, 1), wl(-4, 2)}, []string{"2"}},
		{"both literals of two atoms", 2, []impl.WLit{wl(3, 1), wl(-3, 2), wl(-1, 1), wl(1, 2)}, []string{"1", "2 3", "4"}},
		{"both literals between others", 3, []impl.WLit{wl(-7, 1), wl(4, 1), wl(7, 1), wl(8, 2)}, []string{"1 4", "2 4", "3 4"}},
	})
}

// TestCoversOfBothLiterals: no set of places has both of them, though it be enough with them alone.
func TestCoversOfBothLiterals(t *testing.T) {
	checkAllCovers(t, []coverCase{
		{"only the two together would be enough", 2, body(1, -1), nil},
		{"the same in the other order", 2, body(-1, 1), nil},
		{"each one is enough", 1, body(1, -1), []string{"1", "2"}},
		{"only the two together, with others", 4, []impl.WLit{wl(1, 2), wl(-1, 2), wl(2, 1)}, nil},
		{"with a third one in place of either", 3, []impl.WLit{wl(1, 2), wl(-1, 2), wl(2, 1)}, []string{"1 3", "2 3"}},
		{"the third one ahead of them", 3, []impl.WLit{wl(2, 2), wl(-2, 2), wl(1, 1)}, []string{"1 2", "1 3"}},
		{"with all three it would be enough", 5, []impl.WLit{wl(2, 2), wl(-2, 2), wl(1, 1)}, nil},
		{"two of two atoms", 2, body(1, -1, 2, -2), []string{"1 3", "2 3", "1 4", "2 4"}},
		{"three of two atoms", 3, body(1, -1, 2, -2), nil},
		{"others behind one that is left out", 2, body(1, 2, -2, 3), []string{"1 2", "1 3", "1 4", "2 4", "3 4"}},
		{"three of three atoms", 3, body(1, 2, -2, 3, -3), []string{"1 2 4", "1 3 4", "1 2 5", "1 3 5"}},
		{"the greatest of each", 6, []impl.WLit{wl(1, 3), wl(-1, 2), wl(2, 2), wl(-2, 3)}, []string{"1 4"}},
		{"the greatest of each, missed by 1", 7, []impl.WLit{wl(1, 3), wl(-1, 2), wl(2, 2), wl(-2, 3)}, nil},
		{"Bound 0", 0, body(1, -1), []string{""}},
		{"of all of five atoms", 5, body(1, -1, 2, -2, 3, -3, 4, -4, 5, -5), []string{
			"1 3 5 7 9", "2 3 5 7 9", "1 4 5 7 9", "2 4 5 7 9", "1 3 6 7 9", "2 3 6 7 9", "1 4 6 7 9", "2 4 6 7 9",
			"1 3 5 8 9", "2 3 5 8 9", "1 4 5 8 9", "2 4 5 8 9", "1 3 6 8 9", "2 3 6 8 9", "1 4 6 8 9", "2 4 6 8 9",
			"1 3 5 7 10", "2 3 5 7 10", "1 4 5 7 10", "2 4 5 7 10", "1 3 6 7 10", "2 3 6 7 10", "1 4 6 7 10", "2 4 6 7 10",
			"1 3 5 8 10", "2 3 5 8 10", "1 4 5 8 10", "2 4 5 8 10", "1 3 6 8 10", "2 3 6 8 10", "1 4 6 8 10", "2 4 6 8 10"}},
		{"one more than all of five atoms", 6, body(1, -1, 2, -2, 3, -3, 4, -4, 5, -5), nil},
	})
}

// TestCoversOfRepeatedLiterals: a literal that stands more than once has one place and all its W.
func TestCoversOfRepeatedLiterals(t *testing.T) {
	checkAllCovers(t, []coverCase{
		{"twice, together enough", 2, body(1, 1), []string{"1"}},
		{"twice, together missed by 1", 3, body(1, 1), nil},
		{"twice with others between", 2, body(3, 1, 2, 3), []string{"1 2", "3"}},
		{"twice at the end", 2, body(1, 2, 3, 3), []string{"1 2", "3"}},
		{"twice ahead", 2, body(1, 1, 2, 3), []string{"1", "2 3"}},
		{"twice behind one that falls", 2, body(3, 2, 2, 1), []string{"2", "1 3"}},
		{"different W", 7, []impl.WLit{wl(2, 3), wl(1, 1), wl(2, 4)}, []string{"2"}},
		{"the greater W first", 7, []impl.WLit{wl(2, 4), wl(1, 1), wl(2, 3)}, []string{"2"}},
		{"different W, one more is wanted", 8, []impl.WLit{wl(2, 3), wl(1, 1), wl(2, 4)}, []string{"1 2"}},
		{"below 0", 3, []impl.WLit{wl(-2, 1), wl(-1, 1), wl(-2, 2)}, []string{"2"}},
		{"three times", 3, body(4, 4, 4), []string{"1"}},
		{"two literals twice each", 2, body(1, 2, 1, 2), []string{"1", "2"}},
		{"two literals twice each, both wanted", 3, body(2, 1, 2, 1), []string{"1 2"}},
		{"both of an atom, each twice", 2, body(-1, 1, -1, 1), []string{"1", "2"}},
		{"both of an atom, each twice, together alone enough", 3, body(-1, 1, -1, 1), nil},
		{"both of an atom, one twice", 3, body(-1, 1, -1, 2), []string{"2 3"}},
		{"enough with one of two that stand twice", 2, body(1, 1, 2), []string{"1"}},
		{"20 times", 20, times(20, wl(7, 1)), []string{"1"}},
		{"20 times, missed by 1", 21, times(20, wl(7, 1)), nil},
		{"the greatest W 20 times", 20000, times(20, wl(-12, 1000)), []string{"1"}},
		{"the greatest W 20 times, missed by 1", 20001, times(20, wl(-12, 1000)), nil},
		{"above MaxW together, and one more", 2001, []impl.WLit{wl(2, 1000), wl(1, 1), wl(2, 1000)}, []string{"1 2"}},
	})
}

// TestCoversOfManyLiterals: different ones count, up to MaxLits of them, whatever the Bound is.
func TestCoversOfManyLiterals(t *testing.T) {
	ten, signs := body(1, 2, 3, 4, 5, 6, 7, 8, 9, 10), body(1, -1, 2, -2, 3, -3, 4, -4, 5, -5)
	all := "1 2 3 4 5 6 7 8 9 10"
	checkAllCovers(t, []coverCase{
		{"MaxLits literals, all of them", 10, ten, []string{all}},
		{"MaxLits literals, missed by 1", 11, ten, nil},
		{"MaxLits literals, one of them", 1, ten, []string{"1", "2", "3", "4", "5", "6", "7", "8", "9", "10"}},
		{"MaxLits literals, all but one", 9, ten, []string{"1 2 3 4 5 6 7 8 9", "1 2 3 4 5 6 7 8 10", "1 2 3 4 5 6 7 9 10", "1 2 3 4 5 6 8 9 10",
			"1 2 3 4 5 7 8 9 10", "1 2 3 4 6 7 8 9 10", "1 2 3 5 6 7 8 9 10", "1 2 4 5 6 7 8 9 10", "1 3 4 5 6 7 8 9 10", "2 3 4 5 6 7 8 9 10"}},
		{"MaxLits literals, Bound 0", 0, ten, []string{""}},
		{"each of them twice", 20, slices.Concat(ten, ten), []string{all}},
		{"each of them twice, missed by 1", 21, slices.Concat(ten, ten), nil},
		{"one of them eleven times", 20, slices.Concat(ten, times(10, wl(10, 1))), []string{all}},
		{"ten of them once more, the last ones first", 2, slices.Concat(body(10, 9, 8, 7, 6, 5, 4, 3, 2, 1), ten), []string{"1", "2", "3", "4", "5", "6", "7", "8", "9", "10"}},
		{"MaxLits literals of five atoms", 1, signs, []string{"1", "2", "3", "4", "5", "6", "7", "8", "9", "10"}},
		{"each of these twice", 10, slices.Concat(signs, signs), coversBy(weighed(nil, 5, signs...))},
		{"the last ten atoms", 10, body(3, 4, 5, 6, 7, 8, 9, 10, 11, 12), []string{all}},
	})
	for name, row := range map[string][]impl.WLit{
		"one more":                            append(slices.Clone(ten), wl(11, 1)),
		"one more, below 0":                   append(slices.Clone(ten), wl(-10, 1)),
		"one more ahead":                      slices.Concat(body(-1), ten),
		"one more of five atoms":              append(slices.Clone(signs), wl(6, 1)),
		"one more, and each of the ten twice": slices.Concat(ten[:9], ten, body(12)),
		"all atoms":                           body(1, 2, 3, 4, 5, 6, 7, 8, 9, 10, 11, 12),
		"20 literals":                         body(1, -1, 2, -2, 3, -3, 4, -4, 5, -5, 6, -6, 7, -7, 8, -8, 9, -9, 10, -10),
	} {
		for _, bound := range []int{-100000, -1, 0, 1, 2, 5, 10, 11, 12, 20, 21, 100000} {
			checkNoCovers(t, name, weighed([]int{1}, bound, row...))
			checkNoCovers(t, name+", with Choice", weighedChoice([]int{1, 12}, bound, row...))
		}
	}
}

func TestCoversOfOtherRules(t *testing.T) {
	for name, r := range map[string]impl.Rule{
		"the zero rule":                     {},
		"a fact":                            plain(1),
		"without Weight":                    plain(1, 2, -3),
		"without Weight and Heads":          constraint(2, -3),
		"without Weight, with Choice":       choice([]int{1, 2}, 3),
		"without Weight, no body":           choice([]int{1, 2}),
		"without Weight, a literal twice":   plain(1, 2, 2),
		"without Weight, Bound 1":           {Heads: []int{1}, Bound: 1, Body: body(2)},
		"without Weight, Bound below 0":     {Heads: []int{1}, Bound: -1, Body: body(2)},
		"without Weight, W 2":               {Heads: []int{1}, Body: []impl.WLit{wl(2, 2)}},
		"two heads":                         weighed([]int{1, 2}, 1, wl(3, 1)),
		"falling Heads":                     weighedChoice([]int{2, 1}, 1, wl(3, 1)),
		"one of the Heads twice":            weighedChoice([]int{1, 1}, 1, wl(3, 1)),
		"a head 0":                          weighed([]int{0}, 1, wl(3, 1)),
		"a head below 0":                    weighed([]int{-1}, 1, wl(3, 1)),
		"a head above MaxAtoms":             weighed([]int{13}, 1, wl(3, 1)),
		"one of the Heads above MaxAtoms":   weighedChoice([]int{1, 13}, 1, wl(3, 1)),
		"a choice without Heads":            weighedChoice(nil, 1, wl(3, 1)),
		"W 0":                               weighed([]int{1}, 1, wl(2, 1), wl(3, 0)),
		"W 0 alone":                         weighed([]int{1}, 0, wl(3, 0)),
		"W below 0":                         weighed([]int{1}, 1, wl(2, 2), wl(3, -1)),
		"W passed by one":                   weighed([]int{1}, 1, wl(2, 1001)),
		"the greatest number as W":          weighed([]int{1}, 1, wl(2, math.MaxInt)),
		"the least number as W":             weighed([]int{1}, 1, wl(2, math.MinInt)),
		"twice, one W 0":                    weighed([]int{1}, 1, wl(2, 2), wl(2, 0)),
		"twice, one W below 0":              weighed([]int{1}, 1, wl(2, 2), wl(2, -1)),
		"a literal 0":                       weighed([]int{1}, 1, wl(2, 1), wl(0, 1)),
		"a literal above MaxAtoms":          weighed([]int{1}, 1, wl(2, 1), wl(13, 1)),
		"a literal above MaxAtoms, below 0": weighed([]int{1}, 1, wl(2, 1), wl(-13, 1)),
		"the least number as a literal":     weighed([]int{1}, 1, wl(2, 1), wl(math.MinInt, 1)),
		"the greatest number as a literal":  weighed([]int{1}, 1, wl(2, 1), wl(math.MaxInt, 1)),
		"Bound passed by one":               weighed([]int{1}, 100001, wl(2, 1)),
		"Bound below by one":                weighed([]int{1}, -100001, wl(2, 1)),
		"the greatest number as Bound":      weighed([]int{1}, math.MaxInt, wl(2, 1)),
		"the least number as Bound":         weighed([]int{1}, math.MinInt, wl(2, 1)),
		"more than MaxBody":                 weighed([]int{1}, 1, times(21, wl(2, 1))...),
		"far more than MaxBody":             weighed([]int{1}, 1, times(5000, wl(2, 1))...),
	} {
		checkNoCovers(t, name, r)
	}
	for _, p := range odd() {
		for _, r := range p.Rules {
			if !impl.RuleOk(r, 12) || !r.Weight {
				checkNoCovers(t, "an odd rule", r)
			}
		}
	}
}

type unWeightCase struct {
	name  string
	rules []impl.Rule
	want  []impl.Rule
}

// checkUnWeights asks of programs of six atoms.
func checkUnWeights(t *testing.T, cases []unWeightCase) {
	t.Helper()
	for _, c := range cases {
		checkUnWeight(t, c.name, rulesOf(6, c.rules...), rulesOf(6, c.want...))
	}
}

func TestUnWeightOneRule(t *testing.T) {
	row := []impl.WLit{wl(4, 1), wl(-2, 2), wl(6, 3)}
	one := func(r impl.Rule) []impl.Rule { return []impl.Rule{r} }
	checkUnWeights(t, []unWeightCase{
		{"no rules", nil, nil},
		{"an empty list", []impl.Rule{}, nil},
		{"covers in their order", one(weighed([]int{1}, 3, row...)), []impl.Rule{plain(1, -2, 4), plain(1, 6)}},
		{"one literal each", one(weighed([]int{1}, 1, row...)), []impl.Rule{plain(1, -2), plain(1, 4), plain(1, 6)}},
		{"all of them", one(weighed([]int{1}, 6, row...)), []impl.Rule{plain(1, -2, 4, 6)}},
		{"no cover", one(weighed([]int{1}, 7, row...)), nil},
		{"the empty cover", one(weighed([]int{1}, 0, row...)), []impl.Rule{plain(1)}},
		{"the empty cover, Bound below 0", one(weighed([]int{1}, -9, row...)), []impl.Rule{plain(1)}},
		{"the empty cover of nothing", one(weighed([]int{1}, 0)), []impl.Rule{plain(1)}},
		{"no cover of nothing", one(weighed([]int{1}, 1)), nil},
		{"without Heads", one(weighed(nil, 3, row...)), []impl.Rule{constraint(-2, 4), constraint(6)}},
		{"without Heads, the empty cover", one(weighed(nil, 0, row...)), []impl.Rule{constraint()}},
		{"without Heads, no cover", one(weighed(nil, 7, row...)), nil},
		{"with Choice of one", one(weighedChoice([]int{1}, 3, row...)), []impl.Rule{choice([]int{1}, -2, 4), choice([]int{1}, 6)}},
		{"with Choice of more", one(weighedChoice([]int{1, 2, 5}, 3, row...)), []impl.Rule{choice([]int{1, 2, 5}, -2, 4), choice([]int{1, 2, 5}, 6)}},
		{"with Choice, the empty cover", one(weighedChoice([]int{1, 2}, 0, row...)), []impl.Rule{choice([]int{1, 2})}},
		{"with Choice, no cover", one(weighedChoice([]int{1, 2}, 7, row...)), nil},
		{"a head of the body stays", one(weighed([]int{6}, 3, row...)), []impl.Rule{plain(6, -2, 4), plain(6, 6)}},
		{"Heads of the body stay", one(weighedChoice([]int{2, 4}, 3, row...)), []impl.Rule{choice([]int{2, 4}, -2, 4), choice([]int{2, 4}, 6)}},
		{"a literal twice", one(weighed([]int{1}, 2, body(3, 2, 3)...)), []impl.Rule{plain(1, 3)}},
		{"a literal twice, and another one", one(weighed([]int{1}, 3, body(3, 2, 3)...)), []impl.Rule{plain(1, 2, 3)}},
		{"both literals of an atom", one(weighed([]int{1}, 1, body(-3, 3)...)), []impl.Rule{plain(1, 3), plain(1, -3)}},
		{"both literals, together alone enough", one(weighed([]int{1}, 2, body(-3, 3)...)), nil},
		{"both literals with a third one", one(weighed([]int{1}, 2, body(-3, 3, 2)...)), []impl.Rule{plain(1, 2, 3), plain(1, 2, -3)}},
		{"that below 0 ahead of what is above", one(weighed([]int{1}, 2, body(5, -4)...)), []impl.Rule{plain(1, -4, 5)}},
		{"W at the limit", one(weighed([]int{1}, 2000, wl(3, 1000), wl(2, 1000))), []impl.Rule{plain(1, 2, 3)}},
	})
}

// TestUnWeightInPlace: each rule in its place, and its covers in theirs; those without Weight as they were.
func TestUnWeightInPlace(t *testing.T) {
	fact, odd, pick := plain(5), plain(2, 6, 3, 3, -3, 2), choice([]int{2, 3}, -5, 4, 4)
	two, gone, always := weighed([]int{1}, 2, body(3, 2, 4)...), weighed([]int{4}, 9, wl(1, 1)), weighedChoice([]int{6}, 0, wl(2, 1))
	twos := []impl.Rule{plain(1, 2, 3), plain(1, 2, 4), plain(1, 3, 4)}
	checkUnWeights(t, []unWeightCase{
		{"none with Weight", []impl.Rule{fact, odd, pick, constraint(), constraint(5, 5)}, []impl.Rule{fact, odd, pick, constraint(), constraint(5, 5)}},
		{"one first", []impl.Rule{two, fact, odd}, append(slices.Clone(twos), fact, odd)},
		{"one between", []impl.Rule{fact, two, odd}, slices.Concat([]impl.Rule{fact}, twos, []impl.Rule{odd})},
		{"one last", []impl.Rule{pick, odd, two}, slices.Concat([]impl.Rule{pick, odd}, twos)},
		{"the same twice", []impl.Rule{two, two}, slices.Concat(twos, twos)},
		{"one that goes, first", []impl.Rule{gone, odd, pick}, []impl.Rule{odd, pick}},
		{"one that goes, between", []impl.Rule{odd, gone, pick}, []impl.Rule{odd, pick}},
		{"one that goes, last", []impl.Rule{odd, pick, gone}, []impl.Rule{odd, pick}},
		{"all go", []impl.Rule{gone, gone, gone}, nil},
		{"one that always holds, between", []impl.Rule{odd, always, pick}, []impl.Rule{odd, choice([]int{6}), pick}},
		{"several kinds", []impl.Rule{always, fact, two, gone, odd, gone, two, pick, always},
			slices.Concat([]impl.Rule{choice([]int{6}), fact}, twos, []impl.Rule{odd}, twos, []impl.Rule{pick, choice([]int{6})})},
		{"what comes of two rules may be alike", []impl.Rule{weighed([]int{1}, 1, body(2, 3)...), weighed([]int{1}, 1, body(3, 2)...), plain(1, 2)},
			[]impl.Rule{plain(1, 2), plain(1, 3), plain(1, 2), plain(1, 3), plain(1, 2)}},
	})
}

// TestUnWeightKeepsTheRest: all but the rules is as it was.
func TestUnWeightKeepsTheRest(t *testing.T) {
	p := wholeProg()
	want := deepCopy(p)
	want.Rules = []impl.Rule{plain(2, 3, -4), choice([]int{2, 3}, 1), constraint(5)}
	checkUnWeight(t, "a whole program", p, want)
	checkUnWeight(t, "one without weights", want, want)
	p.Rules, want.Rules = nil, nil
	checkUnWeight(t, "a whole program without rules", p, want)
	p.Rules = []impl.Rule{weighed([]int{4}, 9, wl(1, 1)), weighed(nil, 1, wl(-9, 2), wl(9, 1))}
	want.Rules = []impl.Rule{constraint(9), constraint(-9)}
	checkUnWeight(t, "a whole program with other rules", p, want)
	rule, comes := weighed([]int{2}, 1, wl(3, 2)), plain(2, 3)
	for name, change := range map[string]func(p *impl.Prog){
		"Atoms alone": func(p *impl.Prog) {},
		"all Atoms":   func(p *impl.Prog) { p.Atoms = 12 },
		"Levels": func(p *impl.Prog) {
			p.Levels = []impl.Level{{P: -100000, Lits: []impl.WLit{wl(3, 0), wl(-1, -1000)}}, {P: 7}}
		},
		"ProjOn":          func(p *impl.Prog) { p.ProjOn = true },
		"Project":         func(p *impl.Prog) { p.ProjOn, p.Project = true, []int{1, 2} },
		"Shows":           func(p *impl.Prog) { p.Shows = []impl.Show{{Text: "!", Cond: []int{3, 3, -2}}, {Text: "!"}} },
		"Exts":            func(p *impl.Prog) { p.Exts = []impl.Ext{{Atom: 1, V: 2}, {Atom: 2}, {Atom: 3, V: 1}} },
		"Assume":          func(p *impl.Prog) { p.Assume = []int{3, -3, 3} },
		"as much assumed": func(p *impl.Prog) { p.Assume = times(20, -3) },
	} {
		p, want := rulesOf(3, rule), rulesOf(3, comes)
		change(&p)
		change(&want)
		checkUnWeight(t, name, p, want)
	}
	checkUnWeight(t, "the zero program", impl.Prog{}, impl.Prog{})
	checkUnWeight(t, "no atoms, one that goes", rulesOf(0, weighed(nil, 1)), impl.Prog{})
	checkUnWeight(t, "no atoms, one that stays", rulesOf(0, weighed(nil, 0)), rulesOf(0, constraint()))
	checkUnWeight(t, "atoms alone", impl.Prog{Atoms: 12}, impl.Prog{Atoms: 12})
}

// TestUnWeightOfExtsAndHeads: an external atom whose only rule goes is no head any more, which Fold then asks for; the text has it so.
func TestUnWeightOfExtsAndHeads(t *testing.T) {
	exts := []impl.Ext{{Atom: 1}, {Atom: 2, V: 1}, {Atom: 3, V: 2}}
	p := impl.Prog{Atoms: 3, Exts: exts, Rules: []impl.Rule{weighedChoice([]int{1, 2, 3}, 9, wl(1, 1))}}
	checkUnWeight(t, "heads that go", p, impl.Prog{Atoms: 3, Exts: exts})
	checkAnswers(t, "heads", p, "")
	checkAnswers(t, "heads that go", impl.Prog{Atoms: 3, Exts: exts}, "2", "1 2")
	// Where one rule of it stays, nothing is changed.
	p.Rules = append(p.Rules, weighed([]int{1}, 1, wl(-3, 1)), choice([]int{2}, 3))
	want := impl.Prog{Atoms: 3, Exts: exts, Rules: []impl.Rule{plain(1, -3), choice([]int{2}, 3)}}
	checkUnWeight(t, "heads of others, too", p, want)
	checkStrongIs(t, "heads of others, too", p, want, true)
}

// TestUnWeightRoom: just MaxRules rules come, or one more.
func TestUnWeightRoom(t *testing.T) {
	tens := weighed([]int{11}, 1, body(1, 2, 3, 4, 5, 6, 7, 8, 9, 10)...)
	pairs := weighed([]int{11}, 2, body(1, 2, 3, 4, 5, 6, 7, 8, 9, 10)...)
	fives := weighed([]int{11}, 5, body(1, 2, 3, 4, 5, 6, 7, 8, 9, 10)...)
	fifteen := weighed([]int{12}, 2, body(1, -2, 3, -4, 5, -6)...)
	gone, always, fact := weighed([]int{1}, 1), weighed([]int{1}, 0), plain(12)
	for _, c := range []struct {
		name  string
		rules []impl.Rule
		want  int
	}{
		{"MaxRules rules as they were", times(60, fact), 60},
		{"MaxRules rules with Weight", times(60, always), 60},
		{"MaxRules rules that go", times(60, gone), 0},
		{"six times ten", times(6, tens), 60},
		{"six times ten, and some that go", slices.Concat(times(30, gone), times(6, tens), times(24, gone)), 60},
		{"six times ten, and one more", append(times(6, tens), fact), 61},
		{"one more ahead", slices.Concat([]impl.Rule{fact}, times(6, tens)), 61},
		{"one more that always holds", append(times(6, tens), always), 61},
		{"45 and 15", []impl.Rule{pairs, fifteen}, 60},
		{"15 and 45", []impl.Rule{fifteen, pairs}, 60},
		{"45, 15 and one more", []impl.Rule{pairs, fact, fifteen}, 61},
		{"45 and 15 facts", slices.Concat(times(15, fact), []impl.Rule{pairs}), 60},
		{"45 and 16 facts", slices.Concat(times(16, fact), []impl.Rule{pairs}), 61},
		{"just MaxRules before", append(times(59, fact), weighed([]int{1}, 1, body(2)...)), 60},
		{"just MaxRules before, and two covers", append(times(59, fact), weighed([]int{1}, 1, body(2, 3)...)), 61},
		{"just MaxRules before, two covers and one that goes", append(times(58, fact), weighed([]int{1}, 1, body(2, 3)...), gone), 60},
		{"as many covers as may be", []impl.Rule{fives}, 252},
		{"as many covers as may be of all rules", times(60, fives), 252 * 60},
	} {
		p := rulesOf(12, c.rules...)
		if c.want > 60 {
			checkNoUnWeight(t, c.name, p)
			continue
		}
		got, ok := impl.UnWeight(p)
		if !ok || len(got.Rules) != c.want || !impl.ProgOk(got) {
			t.Errorf("%s: UnWeight has %d rules, %v, not %d", c.name, len(got.Rules), ok, c.want)
		}
	}
	if list, ok := impl.Covers(fives); !ok || len(list) != 252 || textOf(list[251].A) != "6 7 8 9 10" {
		t.Errorf("of five of ten there are %d Covers, %v", len(list), ok)
	}
}

// TestUnWeightWithoutCovers: where Covers is false of one rule, so is UnWeight, whatever else there is.
func TestUnWeightWithoutCovers(t *testing.T) {
	eleven := body(1, 2, 3, 4, 5, 6, 7, 8, 9, 10, 11)
	for _, bound := range []int{-1, 0, 1, 11, 12, 100000} {
		r, most := weighed([]int{12}, bound, eleven...), weighed([]int{12}, bound, eleven[:10]...)
		checkNoCovers(t, "too many literals", r)
		checkNoUnWeight(t, "alone", rulesOf(12, r))
		checkNoUnWeight(t, "first", rulesOf(12, r, plain(1)))
		checkNoUnWeight(t, "last", rulesOf(12, plain(1), weighed(nil, 0), r))
		checkNoUnWeight(t, "between", rulesOf(12, plain(1), r, weighed([]int{1}, 9)))
		checkNoUnWeight(t, "with all else there may be", func() impl.Prog {
			p := wholeProg()
			p.Atoms = 12
			p.Rules = append(p.Rules, r)
			return p
		}())
		if got, ok := impl.UnWeight(rulesOf(12, plain(1), most)); !ok || !alike(got.Rules[0], plain(1)) {
			t.Errorf("Bound %d, of MaxLits literals: UnWeight is %+v, %v", bound, got, ok)
		}
	}
	many := plain(12, 1, 2, 3, 4, 5, 6, 7, 8, 9, 10, 11, -1, -2)
	checkUnWeight(t, "without Weight there may be more", rulesOf(12, many), rulesOf(12, many))
	checkNoUnWeight(t, "a program at its limits", func() impl.Prog {
		p := atLimits()
		p.Rules[1] = weighed(nil, -100000, eleven...)
		return p
	}())
}

func TestUnWeightOfNoProgram(t *testing.T) {
	whole := wholeProg()
	whole.Levels[1].Lits = []impl.WLit{wl(-3, 2), wl(5, 0)}
	if _, ok := impl.UnWeight(whole); !ok {
		t.Errorf("without a change: UnWeight is false")
	}
	for name, change := range noCosts() {
		p := deepCopy(whole)
		change(&p)
		if impl.ProgOk(p) {
			t.Errorf("%s: this is a program", name)
		}
		checkNoUnWeight(t, name, p)
	}
	for name, p := range map[string]impl.Prog{
		"the least Atoms":            {Atoms: math.MinInt},
		"a head above Atoms":         rulesOf(3, weighed([]int{4}, 1)),
		"a literal above Atoms":      rulesOf(3, weighed([]int{1}, 9, wl(4, 1))),
		"a literal below above it":   rulesOf(3, weighed([]int{1}, 0, wl(-4, 1))),
		"a choice without a head":    rulesOf(3, weighedChoice(nil, 1)),
		"W 0":                        rulesOf(3, weighed(nil, 1, wl(2, 0))),
		"W passed by one":            rulesOf(3, weighed(nil, 1, wl(2, 1001))),
		"Bound passed by one":        rulesOf(3, weighed(nil, 100001)),
		"Bound below by one":         rulesOf(3, weighed(nil, -100001)),
		"Bound without Weight":       rulesOf(3, impl.Rule{Bound: 1}),
		"more than MaxBody":          rulesOf(3, weighed(nil, 1, times(21, wl(1, 1))...)),
		"more than MaxRules that go": rulesOf(3, times(61, weighed(nil, 1))...),
	} {
		checkNoUnWeight(t, name, p)
	}
	for _, p := range odd() {
		if !impl.ProgOk(p) {
			checkNoUnWeight(t, "an odd program", p)
		}
	}
}

func TestUnWeightAtLimits(t *testing.T) {
	want := atLimits()
	want.Rules = []impl.Rule{want.Rules[0], constraint()}
	checkUnWeight(t, "a program at its limits", atLimits(), want)
}

// litsBy are the literals of a rule's body, each once with all its W together, in the order of the document.
func litsBy(r impl.Rule) []impl.WLit {
	var lits []impl.WLit
	for a := 1; a <= 12; a++ {
		for _, l := range []int{a, -a} {
			stands, all := false, 0
			for _, w := range r.Body {
				if w.L == l {
					stands, all = true, all+w.W
				}
			}
			if stands {
				lits = append(lits, wl(l, all))
			}
		}
	}
	return lits
}

// isCover tells by the definition whether the literals at places, which are a set, are a cover.
func isCover(lits []impl.WLit, places []int, bound int) bool {
	together := 0
	for _, place := range places {
		together += lits[place-1].W
	}
	if together < bound {
		return false
	}
	for _, place := range places {
		if together-lits[place-1].W >= bound {
			return false
		}
		for _, other := range places {
			if lits[place-1].L == -lits[other-1].L {
				return false
			}
		}
	}
	return true
}

// coversBy asks each set of places, in the order of their numbers.
func coversBy(r impl.Rule) []string {
	lits := litsBy(r)
	var covers []string
	for num := range 1 << len(lits) {
		if places := impl.SetOf(num); isCover(lits, places, r.Bound) {
			covers = append(covers, textOf(places))
		}
	}
	return covers
}

// unWeightBy has what comes of a program by the definition, if it has covers and room.
func unWeightBy(p impl.Prog) (impl.Prog, bool) {
	q := deepCopy(p)
	q.Rules = nil
	for _, r := range p.Rules {
		if !r.Weight {
			q.Rules = append(q.Rules, r)
			continue
		}
		lits := litsBy(r)
		if len(lits) > 10 {
			return impl.Prog{}, false
		}
		for num := range 1 << len(lits) {
			places := impl.SetOf(num)
			if !isCover(lits, places, r.Bound) {
				continue
			}
			comes := impl.Rule{Choice: r.Choice, Heads: r.Heads}
			for _, place := range places {
				comes.Body = append(comes.Body, wl(lits[place-1].L, 1))
			}
			q.Rules = append(q.Rules, comes)
		}
	}
	return q, len(q.Rules) <= 60
}

// someWeighed is a rule with Weight that is RuleOk with n, of most literals, some of them twice, whose Bound is anywhere about what its W can reach.
func someWeighed(from *rand.Rand, n, most int) impl.Rule {
	r := someRule(from, n)
	r.Weight, r.Body = true, nil
	mostW := []int{1, 3, 6, 1000}[from.Intn(4)]
	all := 0
	for range from.Intn(most + 1) {
		w := wl((1+from.Intn(n))*(1-2*from.Intn(2)), 1+from.Intn(mostW))
		all += w.W
		r.Body = append(r.Body, w)
	}
	r.Bound = from.Intn(all+3) - 1
	if from.Intn(2) == 0 {
		r.Bound = 1 + from.Intn(all/2+1)
	}
	return r
}

// TestCoversOfMany: of many rules, just what the definition tells, and nothing where there are too many literals.
func TestCoversOfMany(t *testing.T) {
	from := rand.New(rand.NewSource(80))
	too, none, one, some, many, both := 0, 0, 0, 0, 0, 0
	for range 12000 {
		r := someWeighed(from, 1+from.Intn(12), 3+from.Intn(18))
		lits := litsBy(r)
		if len(lits) > 10 {
			too++
			checkNoCovers(t, "one of many", r)
			continue
		}
		want := coversBy(r)
		checkCovers(t, "one of many", r, want...)
		switch n := len(want); {
		case n == 0:
			none++
		case n == 1:
			one++
		case n < 10:
			some++
		default:
			many++
		}
		for i := range lits {
			if i > 0 && lits[i].L == -lits[i-1].L && len(want) > 1 {
				both++
				break
			}
		}
	}
	if too < 300 || none < 1000 || one < 1000 || some < 2000 || many < 1000 || both < 1500 {
		t.Errorf("the rules are too much alike: %d have too many literals, %d no cover, %d one, %d some, %d many, %d of them both literals of an atom", too, none, one, some, many, both)
	}
}

// TestCoversOfAnyOrder: whatever the order of the body, and however the W of a literal is told in parts.
func TestCoversOfAnyOrder(t *testing.T) {
	from := rand.New(rand.NewSource(81))
	for range 3000 {
		r := someWeighed(from, 1+from.Intn(8), 6)
		if len(litsBy(r)) > 10 {
			continue
		}
		list, _ := impl.Covers(r)
		want := textsOf(list)
		for range 3 {
			other := deepCopy(r)
			for i, w := range r.Body {
				if part := w.W - from.Intn(w.W); part < w.W {
					other.Body[i].W = part
					other.Body = append(other.Body, wl(w.L, w.W-part))
				}
			}
			from.Shuffle(len(other.Body), func(i, j int) { other.Body[i], other.Body[j] = other.Body[j], other.Body[i] })
			checkCovers(t, "in parts", other, want...)
			other.Choice, other.Heads = true, impl.SetOf(1+from.Intn(4095))
			checkCovers(t, "with other Heads", other, want...)
		}
	}
}

// holdsOf tells whether all literals at some places hold, where what is above 0 is asked of s, what is below 0 of x.
func holdsOf(lits []impl.WLit, places, s, x []int) bool {
	return !slices.ContainsFunc(places, func(place int) bool {
		l := lits[place-1].L
		return l > 0 && !slices.Contains(s, l) || l < 0 && slices.Contains(x, -l)
	})
}

// TestABodyHoldsJustWhereACoverDoes: of a set, and of a pair; and no cover is a part of another one.
func TestABodyHoldsJustWhereACoverDoes(t *testing.T) {
	from := rand.New(rand.NewSource(82))
	holds, not, apart := 0, 0, 0
	for range 3000 {
		n := 1 + from.Intn(6)
		r := someWeighed(from, n, 3+from.Intn(18))
		lits := litsBy(r)
		list, ok := impl.Covers(r)
		if ok != (len(lits) <= 10) {
			t.Fatalf("Covers(%+v) is %v", r, ok)
		}
		if !ok {
			continue
		}
		for i, one := range list {
			if !impl.SetOk(one.A, len(lits)) {
				t.Fatalf("Covers(%+v) has %v", r, one.A)
			}
			for j, other := range list {
				if i != j && impl.SetIn(one.A, other.A) {
					t.Fatalf("Covers(%+v) has %v and %v", r, one.A, other.A)
				}
			}
		}
		for there := range 1 << n {
			x, here := impl.SetOf(there), there&from.Intn(1<<n)
			cover := slices.ContainsFunc(list, func(s impl.Set) bool { return holdsOf(lits, s.A, x, x) })
			if impl.BodyHolds(r, x) != cover {
				t.Fatalf("the body of %+v holds of %v: %v, one of %q: %v", r, x, !cover, textsOf(list), cover)
			}
			h := impl.SetOf(here)
			part := slices.ContainsFunc(list, func(s impl.Set) bool { return holdsOf(lits, s.A, h, x) })
			if gives(r, h, x) != part {
				t.Fatalf("the body of %+v holds of %v in %v: %v, one of %q: %v", r, h, x, !part, textsOf(list), part)
			}
			if cover {
				holds++
			} else {
				not++
			}
			if cover != part {
				apart++
			}
		}
	}
	if holds < 10000 || not < 10000 || apart < 2000 {
		t.Errorf("the rules are too much alike: bodies hold %d times, not %d times, and %d times not of a part", holds, not, apart)
	}
}

// someWithWeights is a program of n atoms with some of each kind, also with Weight and literals that stand twice.
func someWithWeights(from *rand.Rand, n, most int) impl.Prog {
	p := someWhole(from, n)
	for range 1 + from.Intn(3) {
		p.Rules = append(p.Rules, someWeighed(from, n, most))
	}
	if from.Intn(2) == 0 {
		p.Rules = append(p.Rules, choice(impl.SetOf(1+from.Intn(1<<n-1))))
	}
	if from.Intn(3) > 0 {
		p.Assume = nil
	}
	from.Shuffle(len(p.Rules), func(i, j int) { p.Rules[i], p.Rules[j] = p.Rules[j], p.Rules[i] })
	return p
}

// TestUnWeightOfMany: of many programs, just what the definition tells, and nothing where there is no room.
func TestUnWeightOfMany(t *testing.T) {
	from := rand.New(rand.NewSource(83))
	too, full, more, less := 0, 0, 0, 0
	for range 6000 {
		p := someWithWeights(from, 1+from.Intn(12), 3+from.Intn(18))
		want, ok := unWeightBy(p)
		if !ok {
			if too++; len(want.Rules) > 60 {
				full++
			}
			checkNoUnWeight(t, "one of many", p)
			continue
		}
		checkUnWeight(t, "one of many", p, want)
		checkUnWeight(t, "what comes", want, want)
		if !impl.ProgOk(want) {
			t.Fatalf("UnWeight(%+v) is no program", p)
		}
		if len(want.Rules) > len(p.Rules) {
			more++
		} else if len(want.Rules) < len(p.Rules) {
			less++
		}
	}
	if too-full < 200 || full < 60 || more < 2000 || less < 500 {
		t.Errorf("the programs are too much alike: %d have too many literals, %d no room, %d have more rules then, %d less", too-full, full, more, less)
	}
}

// loses tells whether an external atom is a head, but none of what comes.
func loses(p, q impl.Prog) bool {
	return slices.ContainsFunc(p.Exts, func(e impl.Ext) bool {
		in := func(r impl.Rule) bool { return slices.Contains(r.Heads, e.Atom) }
		return slices.ContainsFunc(p.Rules, in) && !slices.ContainsFunc(q.Rules, in)
	})
}

// TestWithoutWeightsAProgramIsStrong: with what it was, and has the same answers, alone and in company.
func TestWithoutWeightsAProgramIsStrong(t *testing.T) {
	from := rand.New(rand.NewSource(84))
	asked, none, many, lost := 0, 0, 0, 0
	for range 2500 {
		n := 1 + from.Intn(5)
		p := someWithWeights(from, n, 3+from.Intn(6))
		q, ok := impl.UnWeight(p)
		if !ok {
			continue
		}
		if loses(p, q) {
			lost++
			continue
		}
		asked++
		want := answersOfWhole(p)
		if got := numsOf(impl.Answers(q)); !slices.Equal(got, want) {
			t.Fatalf("Answers of UnWeight(%+v) = %v, not %v", p, got, want)
		}
		checkStrongIs(t, "without weights", p, q, true)
		checkEqualIs(t, "without weights", p, q, true)
		fp, _ := impl.Fold(p)
		fq, _ := impl.Fold(q)
		if got, want := pairsBy(fq.Rules, n), pairsBy(fp.Rules, n); !slices.Equal(got, want) {
			t.Fatalf("without weights %+v has the pairs %q, not %q", p, got, want)
		}
		switch len(want) {
		case 0:
			none++
		case 1:
		default:
			many++
		}
		more := someFree(from, 1+from.Intn(n))
		if len(fp.Rules)+len(more.Rules) <= 50 && len(fq.Rules)+len(more.Rules) <= 50 {
			checkEqualIs(t, "without weights, with a third one", together(t, p, more), together(t, q, more), true)
		}
	}
	if asked < 1500 || none < 200 || many < 300 || lost < 10 {
		t.Errorf("the programs are too much alike: %d are asked, %d have no answer, %d more than one; of %d an external head goes", asked, none, many, lost)
	}
}

// TestWithoutWeightsOfMaxHtAtoms: Strong of as many atoms as it takes, and the same answers of more.
func TestWithoutWeightsOfMaxHtAtoms(t *testing.T) {
	from := rand.New(rand.NewSource(85))
	strong, found := 0, 0
	for range 300 {
		n := 6 + from.Intn(7)
		p := impl.Prog{Atoms: n, Rules: []impl.Rule{choice(impl.SetOf(1 + from.Intn(1<<n-1)))}}
		for range 2 + from.Intn(4) {
			p.Rules = append(p.Rules, someWeighed(from, n, 8))
		}
		q, ok := impl.UnWeight(p)
		if !ok {
			continue
		}
		checkEqualIs(t, "without weights", p, q, true)
		found += impl.Count(q)
		if n <= 7 {
			checkStrongIs(t, "without weights", p, q, true)
			strong++
		}
	}
	if strong < 30 || found < 1000 {
		t.Errorf("the programs are too much alike: %d are asked for Strong, %d answers", strong, found)
	}
}

// TestUnWeightIsAlwaysTheSame: however often it is asked, by however many at once.
func TestUnWeightIsAlwaysTheSame(t *testing.T) {
	r := weighedChoice([]int{1, 6}, 3, wl(3, 1), wl(-2, 2), wl(3, 1), wl(2, 3), wl(5, 1))
	p := rulesOf(6, plain(4), r)
	want := rulesOf(6, plain(4), choice([]int{1, 6}, 2), choice([]int{1, 6}, -2, 3), choice([]int{1, 6}, -2, 5), choice([]int{1, 6}, 3, 5))
	byMany(50, func() {
		checkCovers(t, "again", r, "1", "2 3", "2 4", "3 4")
		checkNoCovers(t, "again", plain(1, 2))
		checkUnWeight(t, "again", p, want)
	})
}

// weighable are programs, and what is none, for calls that must leave them as they are.
func weighable() []impl.Prog {
	row := []impl.WLit{wl(4, 1), wl(-2, 2), wl(4, 1), wl(3, 3), wl(2, 1), wl(-2, 1)}
	whole := wholeProg()
	whole.Rules = append(whole.Rules, weighed([]int{4}, 3, row...), weighed(nil, 9, wl(1, 1)), plain(5, 3, 3, -1), weighedChoice([]int{1, 2, 9}, 0, row...))
	return append(splittable(), whole,
		rulesOf(6, weighedChoice([]int{1, 5, 6}, 3, row...), weighed(nil, 2, row...), weighed([]int{6}, 0), choice([]int{2, 3}, 4, -1)),
		rulesOf(12, weighed([]int{11}, 2, body(10, 9, 8, 7, 6, 5, 4, 3, 2, 1)...)),
		rulesOf(12, plain(1), weighed([]int{12}, 2, body(1, 2, 3, 4, 5, 6, 7, 8, 9, 10, 11)...)),
		rulesOf(12, times(60, weighed([]int{12}, 1, wl(2, 7), wl(2, 1)))...),
	)
}

func TestUnWeightArgumentsAreKept(t *testing.T) {
	for _, made := range weighable() {
		keeping(t, "UnWeight", withSpare(made), func(p impl.Prog) { impl.UnWeight(p) })
		for _, r := range made.Rules {
			keeping(t, "Covers", withSpare(r), func(r impl.Rule) { impl.Covers(r) })
		}
	}
}

func TestUnWeightSpareIsNotRead(t *testing.T) {
	covered, unweighed := 0, 0
	for _, made := range weighable() {
		got, ok := impl.UnWeight(withSpare(made))
		want, also := impl.UnWeight(made)
		if ok != also || !alike(got, want) {
			t.Errorf("the room behind the lists of %+v is read", made)
		}
		if ok && len(want.Rules) > len(made.Rules) {
			unweighed++
		}
		for _, r := range made.Rules {
			got, ok := impl.Covers(withSpare(r))
			want, also := impl.Covers(r)
			if ok != also || !alike(got, want) {
				t.Errorf("the room behind the lists of %+v is read", r)
			}
			if len(want) > 1 {
				covered++
			}
		}
	}
	if covered < 5 || unweighed < 3 {
		t.Errorf("only %d rules have covers, %d programs more rules", covered, unweighed)
	}
	r := impl.Rule{Heads: []int{1, 2}[:1], Weight: true, Bound: 2, Body: body(3, 4, 5)[:2]}
	checkCovers(t, "a literal behind Body", r, "1 2")
	p := impl.Prog{Atoms: 5, Rules: []impl.Rule{r, plain(2)}[:1]}
	checkUnWeight(t, "a rule behind Rules", p, rulesOf(5, plain(1, 3, 4)))
}

func TestUnWeightAnswersAreNew(t *testing.T) {
	for _, made := range weighable() {
		p := withSpare(made)
		all := []any{p}
		for range 2 {
			bare, _ := impl.UnWeight(p)
			handsOutNothing(t, "UnWeight", reflect.ValueOf(bare))
			all = append(all, bare)
			for _, r := range p.Rules {
				covers, _ := impl.Covers(r)
				handsOutNothing(t, "Covers", reflect.ValueOf(covers))
				all = append(all, covers)
			}
		}
		checkApart(t, "a call of chapter 15", all...)
	}
	r := weighedChoice([]int{1, 2}, 2, body(3, 4, -5)...)
	p := rulesOf(5, r, plain(4, 1))
	for range 2 {
		covers, _ := impl.Covers(r)
		for i, s := range covers {
			overwrite(s.A, -1-i)
		}
		bare, _ := impl.UnWeight(p)
		if len(bare.Rules) != 4 {
			t.Fatalf("where some are written into, UnWeight is %+v", bare)
		}
		overwrite(bare.Rules[0].Heads, -1)
		bare.Rules[1].Body[0] = wl(-1, -1)
		bare.Rules[3].Body[0] = wl(-1, -1)
		if !alike(bare.Rules[2], choice([]int{1, 2}, 4, -5)) {
			t.Errorf("where others are written into, the third one is %+v", bare.Rules[2])
		}
	}
	checkCovers(t, "where some are written into", r, "1 2", "1 3", "2 3")
	checkUnWeight(t, "where some are written into", p, rulesOf(5, choice([]int{1, 2}, 3, 4), choice([]int{1, 2}, 3, -5), choice([]int{1, 2}, 4, -5), plain(4, 1)))
}
