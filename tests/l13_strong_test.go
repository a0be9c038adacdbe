package tests

import (
	"math"
	"math/rand"
	"reflect"
	"slices"
	"strconv"
	"testing"

	"loop.example/g00554/impl"
)

func TestMaxHt(t *testing.T) {
	if impl.MaxHt != 7 {
		t.Errorf("MaxHt is %d", impl.MaxHt)
	}
}

// pairText is a pair as its H and its T, with a / between.
func pairText(h, there []int) string {
	return textOf(h) + "/" + textOf(there)
}

func pairTexts(pairs []impl.Pair) []string {
	texts := make([]string, 0, len(pairs))
	for _, pair := range pairs {
		texts = append(texts, pairText(pair.H, pair.T))
	}
	return texts
}

func checkHt(t *testing.T, name string, p impl.Prog, h, there []int, want bool) {
	t.Helper()
	if impl.HtModel(p, h, there) != want {
		t.Errorf("%s: HtModel(%+v, %v, %v) is not %v", name, p, h, there, want)
	}
}

// checkPairs fails where HtModels are other ones, or where HtModel tells others of sets with up to one atom more.
func checkPairs(t *testing.T, name string, p impl.Prog, want ...string) {
	t.Helper()
	if got := pairTexts(impl.HtModels(p)); !slices.Equal(got, want) {
		t.Errorf("%s: HtModels(%+v) = %q, not %q", name, p, got, want)
	}
	for here := range 2 << p.Atoms {
		for there := range 2 << p.Atoms {
			h, x := impl.SetOf(here), impl.SetOf(there)
			checkHt(t, name, p, h, x, slices.Contains(want, pairText(h, x)))
		}
	}
}

// checkStrongIs asks of p and q in both orders.
func checkStrongIs(t *testing.T, name string, p, q impl.Prog, want bool) {
	t.Helper()
	if impl.Strong(p, q) != want {
		t.Errorf("%s: Strong(%+v, %+v) is not %v", name, p, q, want)
	}
	if impl.Strong(q, p) != want {
		t.Errorf("%s: Strong(%+v, %+v) is not %v", name, q, p, want)
	}
}

// checkEqualIs asks of p and q in both orders.
func checkEqualIs(t *testing.T, name string, p, q impl.Prog, want bool) {
	t.Helper()
	if impl.Equal(p, q) != want {
		t.Errorf("%s: Equal(%+v, %+v) is not %v", name, p, q, want)
	}
	if impl.Equal(q, p) != want {
		t.Errorf("%s: Equal(%+v, %+v) is not %v", name, q, p, want)
	}
}

type htCase struct {
	name  string
	rules []impl.Rule
	h     []int
	t     []int
	want  bool
}

// checkHts asks of programs of four atoms.
func checkHts(t *testing.T, cases []htCase) {
	t.Helper()
	for _, c := range cases {
		checkHt(t, c.name, impl.Prog{Atoms: 4, Rules: c.rules}, c.h, c.t, c.want)
	}
}

// TestHtModelByRules: rules without Choice and without Weight, of one atom in the body.
func TestHtModelByRules(t *testing.T) {
	fact, needs, refuses := []impl.Rule{plain(1)}, []impl.Rule{plain(1, 2)}, []impl.Rule{plain(1, -2)}
	checkHts(t, []htCase{
		{"no rules, the empty set twice", nil, nil, nil, true},
		{"no rules, one set twice", nil, []int{1, 3}, []int{1, 3}, true},
		{"no rules, a lesser part", nil, []int{3}, []int{1, 3}, true},
		{"no rules, the empty part", nil, nil, []int{1, 2, 3, 4}, true},
		{"no rules, h not in t", nil, []int{2}, []int{1, 3}, false},
		{"no rules, h greater than t", nil, []int{1, 2}, []int{1}, false},
		{"no rules, h alone", nil, []int{1}, nil, false},
		{"no rules, t has all but one of h", nil, []int{1, 2, 3}, []int{1, 3, 4}, false},

		{"a fact, the empty set twice", fact, nil, nil, false},
		{"a fact, in both", fact, []int{1}, []int{1}, true},
		{"a fact, in t alone", fact, nil, []int{1}, false},
		{"a fact, in both, and more in t", fact, []int{1}, []int{1, 4}, true},
		{"a fact, in none", fact, []int{2}, []int{2, 3}, false},
		{"a fact, h not in t", fact, []int{1}, []int{2}, false},

		{"the body in neither", needs, nil, nil, true},
		{"the body in neither, the head in both", needs, []int{1}, []int{1}, true},
		{"the body in neither, the head in t", needs, nil, []int{1}, true},
		{"the body in both, the head in both", needs, []int{1, 2}, []int{1, 2}, true},
		{"the body in both, the head in t: it holds in t, not in h", needs, []int{2}, []int{1, 2}, false},
		{"the body in both, the head in neither", needs, []int{2}, []int{2}, false},
		{"the body in t, the head in both", needs, []int{1}, []int{1, 2}, true},
		{"the body in t, the head in t", needs, nil, []int{1, 2}, true},
		{"the body in t, the head in neither: it holds in h, not in t", needs, nil, []int{2}, false},
		{"the body in t, the head in neither, others in both", needs, []int{3, 4}, []int{2, 3, 4}, false},

		{"not it, in neither", refuses, nil, nil, false},
		{"not it, in neither, the head in both", refuses, []int{1}, []int{1}, true},
		{"not it, in neither, the head in t", refuses, nil, []int{1}, false},
		{"not it, in both, the head in neither", refuses, []int{2}, []int{2}, true},
		{"not it, in t, not in h, the head in neither", refuses, nil, []int{2}, true},
		{"not it, in t, not in h, the head in t", refuses, nil, []int{1, 2}, true},
		{"not it, in t, not in h, the head in both", refuses, []int{1}, []int{1, 2}, true},

		{"the second rule alone does not hold in h", []impl.Rule{plain(1, 2), plain(3, 4), plain(2)}, []int{1, 2, 4}, []int{1, 2, 3, 4}, false},
		{"the last rule alone does not hold in t", []impl.Rule{plain(1, 2), plain(2), plain(3, 4)}, []int{1, 2}, []int{1, 2, 4}, false},
		{"all of three", []impl.Rule{plain(1, 2), plain(2), plain(3, 4)}, []int{1, 2}, []int{1, 2, 3, 4}, true},
		{"a circle, in t", loop(1, 2, 3), nil, []int{1, 2, 3}, true},
		{"a circle, a part of it in h", loop(1, 2, 3), []int{1}, []int{1, 2, 3}, false},
		{"its own head in the body, in t", loop(1), nil, []int{1}, true},
		{"its own head in the body, in neither", loop(1), nil, nil, true},
		{"not its own head, in t", []impl.Rule{plain(1, -1)}, nil, []int{1}, true},
		{"not its own head, in both", []impl.Rule{plain(1, -1)}, []int{1}, []int{1}, true},
		{"not its own head, in neither", []impl.Rule{plain(1, -1)}, nil, nil, false},
	})
}

// TestHtModelByChoice: with Choice what is in t must be in h, where the body holds in h; t alone is never asked.
func TestHtModelByChoice(t *testing.T) {
	some, needs, refuses := []impl.Rule{choice([]int{1, 2, 3})}, []impl.Rule{choice([]int{1, 2}, 3)}, []impl.Rule{choice([]int{1, 2}, -3)}
	checkHts(t, []htCase{
		{"Heads in neither", some, nil, nil, true},
		{"Heads not in t, others in both", some, []int{4}, []int{4}, true},
		{"Heads not in t, others in t", some, nil, []int{4}, true},
		{"all Heads in both", some, []int{1, 2, 3}, []int{1, 2, 3}, true},
		{"all Heads in t, none in h", some, nil, []int{1, 2, 3}, false},
		{"all Heads in t, one in h", some, []int{2}, []int{1, 2, 3}, false},
		{"all Heads in t, all but one in h", some, []int{1, 3}, []int{1, 2, 3}, false},
		{"one of the Heads in t, and in h", some, []int{2}, []int{2}, true},
		{"one of the Heads in t, not in h", some, nil, []int{2}, false},
		{"two of the Heads in t, both in h", some, []int{1, 3}, []int{1, 3, 4}, true},
		{"two of the Heads in t, the first in h", some, []int{1, 4}, []int{1, 3, 4}, false},
		{"two of the Heads in t, the second in h", some, []int{3, 4}, []int{1, 3, 4}, false},
		{"h not in t", some, []int{1, 2}, []int{1}, false},
		{"one Head, in t", []impl.Rule{choice([]int{1})}, nil, []int{1}, false},
		{"one Head, in both", []impl.Rule{choice([]int{1})}, []int{1}, []int{1}, true},
		{"one Head, in neither", []impl.Rule{choice([]int{1})}, nil, nil, true},

		{"the body in neither, Heads in t", needs, nil, []int{1, 2}, true},
		{"the body in neither, one in h", needs, []int{1}, []int{1, 2}, true},
		{"the body in t, Heads in t", needs, nil, []int{1, 2, 3}, true},
		{"the body in t, no Heads", needs, nil, []int{3}, true},
		{"the body in both, no Heads", needs, []int{3}, []int{3}, true},
		{"the body in both, Heads in t", needs, []int{3}, []int{1, 2, 3}, false},
		{"the body in both, one in h", needs, []int{1, 3}, []int{1, 2, 3}, false},
		{"the body in both, one in t, and in h", needs, []int{1, 3}, []int{1, 3}, true},
		{"the body in both, one in t, not in h", needs, []int{3}, []int{2, 3}, false},
		{"the body in both, Heads in both", needs, []int{1, 2, 3}, []int{1, 2, 3}, true},
		{"not it, in t, Heads in t", refuses, nil, []int{1, 2, 3}, true},
		{"not it, in neither, Heads in t", refuses, nil, []int{1, 2}, false},
		{"not it, in neither, Heads in both", refuses, []int{1, 2}, []int{1, 2}, true},
		{"not it, in neither, no Heads", refuses, []int{4}, []int{4}, true},
		{"its own head in the body, in t", []impl.Rule{choice([]int{1, 2}, 1)}, nil, []int{1, 2}, true},
		{"its own head in the body, in both", []impl.Rule{choice([]int{1, 2}, 1)}, []int{1}, []int{1, 2}, false},
		{"beside a rule without Choice", []impl.Rule{choice([]int{1, 2}), plain(3, 1)}, []int{1}, []int{1, 3}, false},
		{"beside a rule without Choice that holds in h alone", []impl.Rule{choice([]int{1, 2}, 4), plain(3, 1)}, nil, []int{1}, false},
	})
}

// TestHtModelByConstraints: a rule without Heads, in the one case in which it is a rule.
func TestHtModelByConstraints(t *testing.T) {
	never, it, notIt := []impl.Rule{constraint()}, []impl.Rule{constraint(1)}, []impl.Rule{constraint(-1)}
	checkHts(t, []htCase{
		{"no body, the empty set twice", never, nil, nil, false},
		{"no body, a lesser part", never, []int{1}, []int{1, 2, 3, 4}, false},
		{"it, in neither", it, nil, nil, true},
		{"it, in neither, others in t", it, nil, []int{2, 3}, true},
		{"it, in both", it, []int{1}, []int{1}, false},
		{"it, in t alone", it, nil, []int{1}, false},
		{"not it, in neither", notIt, nil, nil, false},
		{"not it, in both", notIt, []int{1}, []int{1}, true},
		{"not it, in t alone", notIt, nil, []int{1}, true},
		{"both, in both", []impl.Rule{constraint(1, 2)}, []int{1, 2}, []int{1, 2}, false},
		{"both, in t alone", []impl.Rule{constraint(1, 2)}, nil, []int{1, 2}, false},
		{"both, one in t", []impl.Rule{constraint(1, 2)}, []int{1}, []int{1}, true},
		{"it and not another one, in t", []impl.Rule{constraint(1, -2)}, nil, []int{1, 2}, true},
		{"it and not another one, which h lacks", []impl.Rule{constraint(1, -2)}, []int{1}, []int{1, 2}, true},
		{"it and not another one, which t lacks", []impl.Rule{constraint(1, -2)}, nil, []int{1}, false},
		{"with Weight, reached in t", []impl.Rule{weighed(nil, 2, wl(1, 1), wl(2, 1))}, nil, []int{1, 2}, false},
		{"with Weight, not reached in t", []impl.Rule{weighed(nil, 2, wl(1, 1), wl(2, 1))}, []int{1}, []int{1}, true},
		{"with Weight and Bound 0", []impl.Rule{weighed(nil, 0)}, nil, nil, false},
		{"a choice of no Heads is no rule", []impl.Rule{choice(nil)}, []int{1}, []int{1}, false},
		{"a choice of no Heads whose body never holds", []impl.Rule{choice(nil, 2, -2)}, nil, nil, false},
		{"a choice of no Heads with Weight", []impl.Rule{weighedChoice(nil, 9, wl(1, 1))}, []int{1}, []int{1, 2}, false},
	})
}

// TestHtModelByBodies: what is above 0 is asked of h, what is below 0 of t.
func TestHtModelByBodies(t *testing.T) {
	mixed, twice, both := []impl.Rule{plain(1, 2, -3)}, []impl.Rule{plain(1, 2, 2)}, []impl.Rule{plain(1, 2, -2)}
	checkHts(t, []htCase{
		{"above in both, below in neither", mixed, []int{2}, []int{1, 2}, false},
		{"above in both, below in neither, the head in both", mixed, []int{1, 2}, []int{1, 2}, true},
		{"above in both, below in t", mixed, []int{2}, []int{1, 2, 3}, true},
		{"above in both, below in t, no head", mixed, []int{2}, []int{2, 3}, true},
		{"above in both, below in both", mixed, []int{2, 3}, []int{2, 3}, true},
		{"above in t, below in neither", mixed, nil, []int{1, 2}, true},
		{"above in t, below in neither, no head", mixed, nil, []int{2}, false},
		{"above in t, below in t, no head", mixed, nil, []int{2, 3}, true},
		{"above in neither, below in neither", mixed, []int{4}, []int{4}, true},
		{"above in neither, below in t", mixed, nil, []int{3}, true},
		{"a literal twice, in both", twice, []int{2}, []int{1, 2}, false},
		{"a literal twice, in t", twice, nil, []int{1, 2}, true},
		{"one atom above and below, in neither", both, nil, nil, true},
		{"one atom above and below, in t", both, nil, []int{2}, true},
		{"one atom above and below, in both", both, []int{2}, []int{2}, true},
		{"one atom above and below, with Choice, in both", []impl.Rule{choice([]int{1}, 2, -2)}, []int{2}, []int{1, 2}, true},
		{"one atom above and below, without a head", []impl.Rule{constraint(2, -2)}, nil, []int{2}, true},
		{"two above, one in h", []impl.Rule{plain(1, 2, 3)}, []int{2}, []int{1, 2, 3}, true},
		{"two above, both in h", []impl.Rule{plain(1, 2, 3)}, []int{2, 3}, []int{1, 2, 3}, false},
		{"two below, one in t", []impl.Rule{plain(1, -2, -3)}, nil, []int{3}, true},
		{"two below, one in h", []impl.Rule{plain(1, -2, -3)}, []int{3}, []int{1, 3}, true},
		{"two below, none in t", []impl.Rule{plain(1, -2, -3)}, nil, []int{1, 4}, false},
	})
}

func TestHtModelByWeights(t *testing.T) {
	row := []impl.WLit{wl(2, 2), wl(-3, 3)}
	checkHts(t, []htCase{
		{"Bound 0, the empty set twice", []impl.Rule{weighed([]int{1}, 0, row...)}, nil, nil, false},
		{"Bound 0, the head in t", []impl.Rule{weighed([]int{1}, 0, row...)}, nil, []int{1, 3}, false},
		{"Bound 0, the head in both", []impl.Rule{weighed([]int{1}, 0, row...)}, []int{1}, []int{1, 3}, true},
		{"Bound 0 of nothing", []impl.Rule{weighed([]int{1}, 0)}, nil, []int{1}, false},
		{"Bound below 0, the head in t", []impl.Rule{weighed([]int{1}, -1, row...)}, nil, []int{1, 3}, false},
		{"Bound below 0, the head in both", []impl.Rule{weighed([]int{1}, -100000, row...)}, []int{1}, []int{1, 3}, true},
		{"Bound 0 with Choice, in t", []impl.Rule{weighedChoice([]int{1, 2}, 0, row...)}, nil, []int{1}, false},
		{"Bound below 0 with Choice, one in h", []impl.Rule{weighedChoice([]int{1, 2}, -1)}, []int{2}, []int{1, 2}, false},
		{"Bound below 0 with Choice, in both", []impl.Rule{weighedChoice([]int{1, 2}, -1)}, []int{1, 2}, []int{1, 2}, true},
		{"Bound 1 of nothing", []impl.Rule{weighed([]int{1}, 1)}, nil, nil, true},

		{"reached in t, not in h", []impl.Rule{weighed([]int{1}, 2, row...)}, nil, []int{1, 2, 3}, true},
		{"reached in t, not in h, no head", []impl.Rule{weighed([]int{1}, 2, row...)}, nil, []int{2, 3}, false},
		{"reached in both, no head", []impl.Rule{weighed([]int{1}, 2, row...)}, []int{2}, []int{2, 3}, false},
		{"reached in both, the head in t", []impl.Rule{weighed([]int{1}, 2, row...)}, []int{2}, []int{1, 2, 3}, false},
		{"reached in both, the head in both", []impl.Rule{weighed([]int{1}, 2, row...)}, []int{1, 2}, []int{1, 2, 3}, true},
		{"reached by what t lacks, which counts for h", []impl.Rule{weighed([]int{1}, 3, row...)}, nil, []int{1}, false},
		{"not reached by what h alone lacks", []impl.Rule{weighed([]int{1}, 3, row...)}, nil, []int{1, 3}, true},
		{"reached by both together", []impl.Rule{weighed([]int{1}, 5, row...)}, []int{2}, []int{1, 2}, false},
		{"reached by both together in t", []impl.Rule{weighed([]int{1}, 5, row...)}, nil, []int{1, 2}, true},
		{"reached by both together in t, no head", []impl.Rule{weighed([]int{1}, 5, row...)}, nil, []int{2}, false},
		{"Bound above the sum", []impl.Rule{weighed([]int{1}, 6, row...)}, []int{2}, []int{2}, true},
		{"one of two in h", []impl.Rule{weighed([]int{1}, 3, wl(2, 2), wl(3, 2))}, []int{2}, []int{1, 2, 3}, true},
		{"one of two in h is enough", []impl.Rule{weighed([]int{1}, 2, wl(2, 2), wl(3, 2))}, []int{2}, []int{1, 2, 3}, false},
		{"a literal twice, in h", []impl.Rule{weighed([]int{1}, 4, wl(2, 2), wl(2, 2))}, []int{2}, []int{1, 2}, false},
		{"one atom above and below, in t", []impl.Rule{weighed([]int{1}, 2, wl(2, 2), wl(-2, 2))}, nil, []int{1, 2}, true},
		{"one atom above and below, in both", []impl.Rule{weighed([]int{1}, 2, wl(2, 2), wl(-2, 2))}, []int{2}, []int{1, 2}, false},
		{"one atom above and below, in neither", []impl.Rule{weighed([]int{1}, 2, wl(2, 2), wl(-2, 2))}, nil, []int{1}, false},
		{"the head in its own body, in t", []impl.Rule{weighed([]int{1}, 1, wl(1, 1))}, nil, []int{1}, true},
		{"with Choice, reached in t, not in h", []impl.Rule{weighedChoice([]int{1, 4}, 2, row...)}, nil, []int{1, 2, 3, 4}, true},
		{"with Choice, reached in both", []impl.Rule{weighedChoice([]int{1, 4}, 2, row...)}, []int{1, 2}, []int{1, 2, 3, 4}, false},
		{"with Choice, reached in both, one Head in t", []impl.Rule{weighedChoice([]int{1, 4}, 2, row...)}, []int{1, 2}, []int{1, 2, 3}, true},
		{"with Choice, reached in t, no Heads", []impl.Rule{weighedChoice([]int{1, 4}, 2, row...)}, nil, []int{2, 3}, true},
	})
}

// TestHtModelWantsSets: of no rules each h in t makes a pair, where both are sets of atoms up to Atoms; a list that is none makes no pair, with no other one.
func TestHtModelWantsSets(t *testing.T) {
	p := impl.Prog{Atoms: 4}
	for there := range 16 {
		for here := range 16 {
			checkHt(t, "sets", p, impl.SetOf(here), impl.SetOf(there), here&^there == 0)
		}
		checkHt(t, "an empty list", p, []int{}, impl.SetOf(there), true)
	}
	for _, x := range [][]int{
		{5}, {1, 5}, {12}, {4, 12}, {1, 2, 3, 4, 5}, {13}, {1, 13}, {0}, {0, 1}, {-1}, {-1, 1}, {1, 0}, {1, -2}, {2, 1}, {4, 3, 2, 1},
		{1, 3, 2}, {1, 1}, {4, 4}, {1, 2, 2}, {1, 1, 2}, {1<<32 + 1}, {math.MinInt, 1}, {1, math.MaxInt}, {math.MinInt}, {math.MaxInt}, {65}, {257},
	} {
		checkHt(t, "no set twice", p, x, x, false)
		for num := range 16 {
			checkHt(t, "h is no set", p, x, impl.SetOf(num), false)
			checkHt(t, "t is no set", p, impl.SetOf(num), x, false)
		}
		checkHt(t, "h is no set up to Atoms", p, x, impl.SetOf(4095), false)
	}
	whole := impl.Prog{Atoms: 12}
	for _, x := range lists {
		for _, y := range lists {
			checkHt(t, "two lists", whole, x, y, impl.SetOk(x, 12) && impl.SetOk(y, 12) && impl.SetIn(x, y))
		}
	}
}

// TestHtModelOfAllAtoms: HtModel alone knows no MaxHt.
func TestHtModelOfAllAtoms(t *testing.T) {
	all := impl.SetOf(4095)
	for n := 8; n <= 12; n++ {
		p := impl.Prog{Atoms: n, Rules: []impl.Rule{plain(n, n-1), choice([]int{1, n}), constraint(-n, 2)}}
		up := impl.SetOf(1<<n - 1)
		checkHt(t, "all atoms twice", p, up, up, true)
		checkHt(t, "all but one", p, up[:n-1], up, false)
		checkHt(t, "all but one in the middle", p, without(up, []int{5}), up, true)
		checkHt(t, "one more", p, up, all, n == 12)
		checkHt(t, "the last one", p, []int{n}, []int{n}, true)
		checkHt(t, "the last one, not in h", p, nil, []int{n}, false)
		checkHt(t, "what gives the last one", p, []int{n - 1}, []int{n - 1}, false)
		checkHt(t, "broken in t", p, nil, []int{2, 3}, false)
		checkHt(t, "the empty set twice", p, nil, nil, true)
	}
}

// TestHtModelOfExtsAndAssume: what Fold adds counts as other rules do.
func TestHtModelOfExtsAndAssume(t *testing.T) {
	rules := []impl.Rule{plain(3, 1)}
	for _, c := range []struct {
		name   string
		rules  []impl.Rule
		exts   []impl.Ext
		assume []int
		h      []int
		t      []int
		want   bool
	}{
		{"V 0, in neither", rules, []impl.Ext{{Atom: 1}}, nil, nil, nil, true},
		{"V 0, in t", rules, []impl.Ext{{Atom: 1}}, nil, nil, []int{1, 3}, false},
		{"V 0, in both", rules, []impl.Ext{{Atom: 1}}, nil, []int{1, 3}, []int{1, 3}, true},
		{"V 1, in neither", rules, []impl.Ext{{Atom: 1, V: 1}}, nil, nil, nil, false},
		{"V 1, in t", rules, []impl.Ext{{Atom: 1, V: 1}}, nil, []int{3}, []int{1, 3}, false},
		{"V 1, in both", rules, []impl.Ext{{Atom: 1, V: 1}}, nil, []int{1, 3}, []int{1, 3}, true},
		{"V 2, in neither", rules, []impl.Ext{{Atom: 1, V: 2}}, nil, nil, nil, true},
		{"V 2, in t", rules, []impl.Ext{{Atom: 1, V: 2}}, nil, nil, []int{1, 3}, true},
		{"V 2, in both", rules, []impl.Ext{{Atom: 1, V: 2}}, nil, []int{1, 3}, []int{1, 3}, true},
		{"V 1 of a head, in neither", rules, []impl.Ext{{Atom: 3, V: 1}}, nil, nil, nil, true},
		{"V 0 of a head, in t", rules, []impl.Ext{{Atom: 3}}, nil, nil, []int{3}, true},
		{"two, one in t", rules, []impl.Ext{{Atom: 1}, {Atom: 2}}, nil, []int{2}, []int{1, 2, 3}, false},
		{"two, both in both", rules, []impl.Ext{{Atom: 1}, {Atom: 2, V: 1}}, nil, []int{1, 2, 3}, []int{1, 2, 3}, true},
		{"assumed, in neither", rules, nil, []int{1}, nil, nil, false},
		{"assumed, in t", rules, nil, []int{1}, nil, []int{1, 3}, true},
		{"assumed, in both", rules, nil, []int{1}, []int{1, 3}, []int{1, 3}, true},
		{"assumed not to be, in neither", rules, nil, []int{-1}, nil, []int{3}, true},
		{"assumed not to be, in t", rules, nil, []int{-1}, nil, []int{1, 3}, false},
		{"assumed not to be, in both", rules, nil, []int{-1}, []int{1, 3}, []int{1, 3}, false},
		{"assumed, the second is not so", rules, nil, []int{1, -2}, []int{1, 3}, []int{1, 2, 3}, false},
		{"assumed to be and not to be", rules, nil, []int{1, -1}, nil, []int{1, 3}, false},
		{"external and assumed, in t", rules, []impl.Ext{{Atom: 2}}, []int{2}, nil, []int{2}, false},
		{"external and assumed, in both", rules, []impl.Ext{{Atom: 2}}, []int{2}, []int{2}, []int{2}, true},
	} {
		p := impl.Prog{Atoms: 3, Rules: c.rules, Exts: c.exts, Assume: c.assume}
		checkHt(t, c.name, p, c.h, c.t, c.want)
	}
}

func TestHtModels(t *testing.T) {
	for _, c := range []struct {
		name string
		p    impl.Prog
		want []string
	}{
		{"the zero program", impl.Prog{}, []string{"/"}},
		{"empty lists", impl.Prog{Rules: []impl.Rule{}, Exts: []impl.Ext{}, Assume: []int{}}, []string{"/"}},
		{"0 Atoms and a constraint", impl.Prog{Rules: []impl.Rule{constraint()}}, nil},
		{"0 Atoms and one that does not hold", impl.Prog{Rules: []impl.Rule{weighed(nil, 1)}}, []string{"/"}},
		{"one atom", impl.Prog{Atoms: 1}, []string{"/", "/1", "1/1"}},
		{"two atoms", impl.Prog{Atoms: 2}, []string{"/", "/1", "1/1", "/2", "2/2", "/1 2", "1/1 2", "2/1 2", "1 2/1 2"}},
		{"a fact", rulesOf(2, plain(1)), []string{"1/1", "1/1 2", "1 2/1 2"}},
		{"the greater atom", rulesOf(2, plain(2)), []string{"2/2", "2/1 2", "1 2/1 2"}},
		{"all facts", rulesOf(2, plain(2), plain(1)), []string{"1 2/1 2"}},
		{"above 0", rulesOf(2, plain(1, 2)), []string{"/", "/1", "1/1", "/1 2", "1/1 2", "1 2/1 2"}},
		{"below 0", rulesOf(2, plain(1, -2)), []string{"1/1", "/2", "2/2", "/1 2", "1/1 2", "2/1 2", "1 2/1 2"}},
		{"an even circle", rulesOf(2, either(1, 2)...), []string{"1/1", "2/2", "/1 2", "1/1 2", "2/1 2", "1 2/1 2"}},
		{"an odd circle", rulesOf(1, plain(1, -1)), []string{"/1", "1/1"}},
		{"a circle without -", rulesOf(2, loop(1, 2)...), []string{"/", "/1 2", "1 2/1 2"}},
		{"a choice", rulesOf(2, choice([]int{1, 2})), []string{"/", "1/1", "2/2", "1 2/1 2"}},
		{"a choice of one", rulesOf(2, choice([]int{2})), []string{"/", "/1", "1/1", "2/2", "2/1 2", "1 2/1 2"}},
		{"a constraint", rulesOf(2, constraint(1)), []string{"/", "/2", "2/2"}},
		{"a constraint with -", rulesOf(2, constraint(-1)), []string{"/1", "1/1", "/1 2", "1/1 2", "2/1 2", "1 2/1 2"}},
		{"none", rulesOf(2, plain(1), constraint(1)), nil},
		{"none by a rule with no body", rulesOf(2, constraint()), nil},
		{"no answer, but pairs", rulesOf(2, constraint(-1), constraint(2)), []string{"/1", "1/1"}},
		{"weights", rulesOf(3, weighed([]int{1}, 2, wl(2, 1), wl(3, 1)), constraint(-2), constraint(-3), constraint(-1)),
			[]string{"/1 2 3", "1/1 2 3", "2/1 2 3", "1 2/1 2 3", "3/1 2 3", "1 3/1 2 3", "1 2 3/1 2 3"}},
		{"external", impl.Prog{Atoms: 2, Exts: []impl.Ext{{Atom: 1}, {Atom: 2, V: 1}}}, []string{"2/2", "1 2/1 2"}},
		{"V 2", impl.Prog{Atoms: 1, Exts: []impl.Ext{{Atom: 1, V: 2}}}, []string{"/", "/1", "1/1"}},
		{"assumed", impl.Prog{Atoms: 2, Assume: []int{-1, 2}}, []string{"/2", "2/2"}},
		{"what is projected, shown and costs is not asked", impl.Prog{
			Atoms: 1, ProjOn: true, Shows: []impl.Show{{Text: "a", Cond: []int{-1}}}, Levels: []impl.Level{level(1, wl(1, 2))},
		}, []string{"/", "/1", "1/1"}},
	} {
		checkPairs(t, c.name, c.p, c.want...)
	}
}

// TestHtModelsInOrder: of three atoms without rules, the less number of T first, then the less one of H.
func TestHtModelsInOrder(t *testing.T) {
	checkPairs(t, "three atoms", impl.Prog{Atoms: 3},
		"/", "/1", "1/1", "/2", "2/2", "/1 2", "1/1 2", "2/1 2", "1 2/1 2",
		"/3", "3/3", "/1 3", "1/1 3", "3/1 3", "1 3/1 3", "/2 3", "2/2 3", "3/2 3", "2 3/2 3",
		"/1 2 3", "1/1 2 3", "2/1 2 3", "1 2/1 2 3", "3/1 2 3", "1 3/1 2 3", "2 3/1 2 3", "1 2 3/1 2 3")
	for n := range 8 {
		pairs := impl.HtModels(impl.Prog{Atoms: n})
		if len(pairs) != power(n, 3) {
			t.Errorf("of %d atoms without rules there are %d pairs", n, len(pairs))
		}
		rises := slices.IsSortedFunc(pairs, func(a, b impl.Pair) int {
			if there := impl.SetNum(a.T) - impl.SetNum(b.T); there != 0 {
				return there
			}
			return impl.SetNum(a.H) - impl.SetNum(b.H)
		})
		if !rises {
			t.Errorf("of %d atoms the pairs are not in order: %q", n, pairTexts(pairs))
		}
	}
}

// TestHtModelsOfMaxHt: of MaxHt Atoms there are pairs, of more there are none, though HtModel tells of them, and though no rule asks for the last ones.
func TestHtModelsOfMaxHt(t *testing.T) {
	all := impl.SetOf(127)
	rules := []impl.Rule{plain(1), plain(2, 1), plain(3, 2), plain(4, 3), plain(5, 4), plain(6, 5)}
	checkPairs(t, "MaxHt Atoms", rulesOf(7, rules...), "1 2 3 4 5 6/1 2 3 4 5 6", "1 2 3 4 5 6/1 2 3 4 5 6 7", "1 2 3 4 5 6 7/1 2 3 4 5 6 7")
	checkPairs(t, "MaxHt Atoms, one pair", rulesOf(7, with(rules, plain(7, 6))...), "1 2 3 4 5 6 7/1 2 3 4 5 6 7")
	checkPairs(t, "MaxHt Atoms, no pair", rulesOf(7, with(rules, constraint(6))...))
	pairs := pairTexts(impl.HtModels(rulesOf(7, choice(all))))
	if len(pairs) != 128 || pairs[0] != "/" || pairs[64] != "7/7" || pairs[127] != "1 2 3 4 5 6 7/1 2 3 4 5 6 7" {
		t.Errorf("the pairs of a choice of MaxHt atoms are %q", pairs)
	}
	for n := 8; n <= 12; n++ {
		for _, p := range []impl.Prog{{Atoms: n}, rulesOf(n, rules...), rulesOf(n, plain(n)), rulesOf(n, choice(all))} {
			if got := impl.HtModels(p); len(got) != 0 {
				t.Errorf("HtModels(%+v) = %q", p, pairTexts(got))
			}
		}
		checkHt(t, "more than MaxHt", rulesOf(n, rules...), all, all, true)
		checkHt(t, "more than MaxHt, above it", impl.Prog{Atoms: n}, []int{n}, []int{n}, true)
	}
}

func TestStrong(t *testing.T) {
	for _, c := range []struct {
		name string
		p, q impl.Prog
		want bool
	}{
		{"the zero programs", impl.Prog{}, impl.Prog{}, true},
		{"itself", rulesOf(3, plain(1, 2, -3)), rulesOf(3, plain(1, 2, -3)), true},
		{"another order of rules", rulesOf(2, plain(1), choice([]int{2}, 1)), rulesOf(2, choice([]int{2}, 1), plain(1)), true},
		{"another order of literals", rulesOf(3, plain(1, 2, -3)), rulesOf(3, plain(1, -3, 2)), true},
		{"a rule twice", rulesOf(2, plain(1, -2)), rulesOf(2, plain(1, -2), plain(1, -2)), true},
		{"a literal twice", rulesOf(2, plain(1, -2)), rulesOf(2, plain(1, -2, -2)), true},
		{"one atom less", rulesOf(2, plain(1)), rulesOf(2, plain(2)), false},

		{"the same answer by a fact", rulesOf(2, plain(1, -2)), rulesOf(2, plain(1)), false},
		{"the same answers by an even circle", rulesOf(2, either(1, 2)...), rulesOf(2, choice([]int{1, 2}), constraint(1, 2), constraint(-1, -2)), false},
		{"the empty answer by a circle", rulesOf(2, loop(1, 2)...), rulesOf(2), false},
		{"the empty answer by constraints", rulesOf(1), rulesOf(1, constraint(1)), false},
		{"no answer in two ways", rulesOf(1, plain(1, -1)), rulesOf(1, constraint()), false},
		{"no answer in a third way", rulesOf(1, plain(1, -1)), rulesOf(1, constraint(-1)), true},
		{"no pairs in two ways", rulesOf(2, plain(1), constraint(1)), rulesOf(2, constraint()), true},
		{"pairs that only an h of a t tells apart", rulesOf(2, constraint(-1), plain(1, 2)), rulesOf(2, constraint(-1)), false},
		{"pairs that only t tells apart", rulesOf(1, choice([]int{1})), rulesOf(1, choice([]int{1}), constraint(1)), false},
		{"the last pair alone", rulesOf(2, choice([]int{1, 2}), plain(2, 1)), rulesOf(2, choice([]int{1, 2}), plain(2, 1), constraint(1)), false},
		{"the first pair alone", rulesOf(1, choice([]int{1})), rulesOf(1, plain(1)), false},

		{"a rule that always holds", rulesOf(2, plain(1, 1)), rulesOf(2), true},
		{"a rule that never gives", rulesOf(2, plain(1, 2, -2)), rulesOf(2), true},
		{"a choice of its body", rulesOf(2, choice([]int{1, 2}, 1)), rulesOf(2, choice([]int{2}, 1)), true},
		{"a choice in two", rulesOf(2, choice([]int{1, 2})), rulesOf(2, choice([]int{1}), choice([]int{2})), true},
		{"a choice beside a fact", rulesOf(1, choice([]int{1}), plain(1)), rulesOf(1, plain(1)), true},
		{"not itself", rulesOf(2, plain(1, -1, 2)), rulesOf(2, constraint(-1, 2)), true},
		{"one rule by way of two", rulesOf(3, plain(1, 2), plain(2, 3), plain(1, 3)), rulesOf(3, plain(1, 2), plain(2, 3)), true},
		{"one with more literals", rulesOf(3, plain(1, 2), plain(1, 2, -3)), rulesOf(3, plain(1, 2)), true},
		{"it and not it", rulesOf(2, plain(1, 2), plain(1, -2)), rulesOf(2, plain(1)), false},
		{"weights and none", rulesOf(3, weighed([]int{1}, 2, wl(2, 1), wl(3, 1))), rulesOf(3, plain(1, 2, 3)), true},
		{"weights and two rules", rulesOf(3, weighed([]int{1}, 1, wl(2, 1), wl(-3, 1))), rulesOf(3, plain(1, 2), plain(1, -3)), true},
		{"weights of a literal and the one with a -", rulesOf(2, weighed([]int{1}, 1, wl(2, 1), wl(-2, 1))), rulesOf(2, plain(1)), false},
		{"Bound 0", rulesOf(2, weighed([]int{1}, 0, wl(2, 1))), rulesOf(2, plain(1)), true},
		{"another Bound", rulesOf(3, weighed([]int{1}, 2, wl(2, 2), wl(3, 1))), rulesOf(3, weighed([]int{1}, 3, wl(2, 2), wl(3, 1))), false},

		{"external and a choice", impl.Prog{Atoms: 2, Exts: []impl.Ext{{Atom: 2}}}, rulesOf(2, choice([]int{2})), true},
		{"external and a fact", impl.Prog{Atoms: 2, Exts: []impl.Ext{{Atom: 2, V: 1}}}, rulesOf(2, plain(2)), true},
		{"external and nothing", impl.Prog{Atoms: 2, Exts: []impl.Ext{{Atom: 2, V: 2}}}, rulesOf(2), true},
		{"external, V 2 and V 0", impl.Prog{Atoms: 2, Exts: []impl.Ext{{Atom: 2, V: 2}}}, impl.Prog{Atoms: 2, Exts: []impl.Ext{{Atom: 2}}}, false},
		{"assumed and a constraint", impl.Prog{Atoms: 2, Assume: []int{2}}, rulesOf(2, constraint(-2)), true},
		{"assumed and a fact", impl.Prog{Atoms: 2, Assume: []int{2}}, rulesOf(2, plain(2)), false},
		{"what is projected, shown and costs", impl.Prog{
			Atoms: 2, Rules: []impl.Rule{plain(1)}, ProjOn: true, Shows: []impl.Show{{Text: "a"}}, Levels: []impl.Level{level(1, wl(1, 2))},
		}, rulesOf(2, plain(1)), true},
	} {
		checkStrongIs(t, c.name, c.p, c.q, c.want)
	}
}

// TestStrongOfMoreAtoms: the greater number of Atoms counts for both.
func TestStrongOfMoreAtoms(t *testing.T) {
	for _, c := range []struct {
		name string
		p, q impl.Prog
		want bool
	}{
		{"0 and more", impl.Prog{}, impl.Prog{Atoms: 1}, true},
		{"0 and MaxHt", impl.Prog{}, impl.Prog{Atoms: 7}, true},
		{"0 and what says nothing of the others", impl.Prog{}, rulesOf(2, plain(1, 1), plain(2, 1, -1)), true},
		{"0 and a constraint, with pairs that are the same of each one's own", impl.Prog{}, rulesOf(1, constraint(1)), false},
		{"0 and a fact", impl.Prog{}, rulesOf(1, plain(1)), false},
		{"0 and a choice", impl.Prog{}, rulesOf(1, choice([]int{1})), false},
		{"0 and what is assumed not to be", impl.Prog{}, impl.Prog{Atoms: 1, Assume: []int{-1}}, false},
		{"0 and V 2", impl.Prog{}, impl.Prog{Atoms: 1, Exts: []impl.Ext{{Atom: 1, V: 2}}}, true},
		{"none has a pair", rulesOf(0, constraint()), rulesOf(7, plain(6), constraint(6)), true},
		{"the same rules", rulesOf(2, plain(1, -2)), rulesOf(3, plain(1, -2)), true},
		{"the same rules, up to MaxHt", rulesOf(2, plain(1, -2)), rulesOf(7, plain(1, -2)), true},
		{"the same pairs of each one's own", rulesOf(2, plain(1, -2)), rulesOf(3, plain(1, -2), constraint(3)), false},
		{"a rule of the atom that is more", rulesOf(2, plain(1, -2)), rulesOf(3, plain(1, -2), plain(1, 3)), false},
		{"a rule of the atom that is more, beside one without it", rulesOf(2, plain(1, -2)), rulesOf(3, plain(1, -2), plain(1, -2, 3)), true},
		{"the last of MaxHt", rulesOf(6, plain(1)), rulesOf(7, plain(1), plain(7)), false},
		{"the last of MaxHt, in h alone", rulesOf(6, plain(1)), rulesOf(7, plain(1), choice([]int{7})), false},
		{"more, and other rules", rulesOf(3, choice([]int{1, 2})), rulesOf(5, choice([]int{2}), choice([]int{1})), true},
	} {
		checkStrongIs(t, c.name, c.p, c.q, c.want)
	}
	// With Atoms 1 this is no program, though one of 2 Atoms stands beside it.
	checkStrongIs(t, "an atom above its own Atoms", rulesOf(1, plain(1, 2)), rulesOf(2, plain(1, 2)), false)
	checkStrongIs(t, "an atom above its own Atoms, of no use", rulesOf(1, plain(1, 2, -2)), rulesOf(2), false)
}

// TestStrongOfMaxHt: MaxHt Atoms are accepted, one more is refused, on either side.
func TestStrongOfMaxHt(t *testing.T) {
	for n := range 13 {
		p := impl.Prog{Atoms: n}
		checkStrongIs(t, "itself", p, p, n <= 7)
		for m := range 13 {
			checkStrongIs(t, "two numbers of Atoms", p, impl.Prog{Atoms: m}, n <= 7 && m <= 7)
		}
		if n > 0 {
			last := rulesOf(n, choice([]int{n}), plain(1, n))
			checkStrongIs(t, "itself", last, last, n <= 7)
			checkStrongIs(t, "another order", last, rulesOf(n, plain(1, n), choice([]int{n})), n <= 7)
			checkStrongIs(t, "another one", last, rulesOf(n, plain(1, n), choice([]int{n}), constraint(n)), false)
		}
		checkEqualIs(t, "Equal knows no MaxHt", p, impl.Prog{Atoms: 12}, true)
	}
	all := impl.SetOf(127)
	checkStrongIs(t, "a choice of MaxHt atoms", rulesOf(7, choice(all)), rulesOf(7, choice(all[:3]), choice(all[2:])), true)
	checkStrongIs(t, "a choice of all but one", rulesOf(7, choice(all)), rulesOf(7, choice(all[:3]), choice(all[4:])), false)
	checkStrongIs(t, "one pair less, the greatest", rulesOf(7, choice(all)), rulesOf(7, choice(all), constraint(all...)), false)
	checkStrongIs(t, "one pair more, in h alone", rulesOf(7, plain(7, 1, 2, 3, 4, 5, 6)), rulesOf(7, constraint(1, 2, 3, 4, 5, 6, -7)), false)
}

func TestEqual(t *testing.T) {
	for _, c := range []struct {
		name string
		p, q impl.Prog
		want bool
	}{
		{"the zero programs", impl.Prog{}, impl.Prog{}, true},
		{"itself", rulesOf(3, choice([]int{1, 3}), plain(2, 3)), rulesOf(3, choice([]int{1, 3}), plain(2, 3)), true},
		{"the same answer in two ways", rulesOf(2, plain(1, -2)), rulesOf(2, plain(1)), true},
		{"the same answers in two ways", rulesOf(2, either(1, 2)...), rulesOf(2, choice([]int{1, 2}), constraint(1, 2), constraint(-1, -2)), true},
		{"the empty answer in two ways", rulesOf(2, loop(1, 2)...), rulesOf(2), true},
		{"another answer", rulesOf(2, plain(1)), rulesOf(2, plain(2)), false},
		{"the first answer is another one", rulesOf(2, choice([]int{2}), plain(1)), rulesOf(2, choice([]int{1}), plain(2)), false},
		{"the last answer is another one", rulesOf(3, either(1, 2)...), rulesOf(3, either(1, 3)...), false},
		{"one answer more at the end", rulesOf(2, choice([]int{1, 2})), rulesOf(2, choice([]int{1, 2}), constraint(1, 2)), false},
		{"one answer more at the beginning", rulesOf(2, choice([]int{1, 2})), rulesOf(2, choice([]int{1, 2}), constraint(-1, -2)), false},
		{"one answer and none", rulesOf(2), rulesOf(2, constraint()), false},
		{"none, in two ways", rulesOf(2, plain(1, -1)), rulesOf(2, constraint()), true},
		{"none, by what is assumed", impl.Prog{Atoms: 2, Assume: []int{1}}, rulesOf(2, plain(1), constraint(1)), true},
		{"none, of another number of Atoms", rulesOf(0, constraint()), rulesOf(12, constraint()), true},
		{"another number of Atoms", rulesOf(2, plain(1)), rulesOf(5, plain(1), plain(4, 3)), true},
		{"another number of Atoms, and another answer", rulesOf(2, plain(1)), rulesOf(5, plain(1), plain(5, 1)), false},
		{"0 Atoms and all", impl.Prog{}, rulesOf(12, constraint(12)), true},
		{"0 Atoms and all, with a choice", impl.Prog{}, rulesOf(12, choice([]int{12})), false},
		{"more than MaxHt Atoms", rulesOf(8, plain(8, -7)), rulesOf(9, plain(8)), true},
		{"more than MaxHt Atoms, and other answers", rulesOf(8, plain(8, -7)), rulesOf(8, plain(7)), false},
		{"all answers of MaxAtoms atoms", rulesOf(12, choice(impl.SetOf(4095))), rulesOf(12, choice(impl.SetOf(2047)), choice([]int{12})), true},
		{"all answers of MaxAtoms atoms but one", rulesOf(12, choice(impl.SetOf(4095))), rulesOf(12, choice(impl.SetOf(4095)), constraint(impl.SetOf(4095)...)), false},
		{"external and a choice", impl.Prog{Atoms: 9, Exts: []impl.Ext{{Atom: 9}}}, rulesOf(9, choice([]int{9})), true},
		{"external, V 0 and V 1", impl.Prog{Atoms: 2, Exts: []impl.Ext{{Atom: 2}}}, impl.Prog{Atoms: 2, Exts: []impl.Ext{{Atom: 2, V: 1}}}, false},
		{"assumed", impl.Prog{Atoms: 2, Rules: []impl.Rule{choice([]int{1, 2})}, Assume: []int{1, -2}}, rulesOf(2, plain(1)), true},
		{"what is projected, shown and costs", impl.Prog{
			Atoms: 2, Rules: []impl.Rule{plain(1)}, ProjOn: true, Shows: []impl.Show{{Text: "a"}}, Levels: []impl.Level{level(1, wl(1, 2))},
		}, rulesOf(2, plain(1)), true},
	} {
		checkEqualIs(t, c.name, c.p, c.q, c.want)
	}
}

// checkNoPairs fails where something is told of the pairs of p, or where it is like another program, also one of which there is as little to tell.
func checkNoPairs(t *testing.T, name string, p impl.Prog) {
	t.Helper()
	for _, h := range lists {
		for _, x := range lists {
			checkHt(t, name, p, h, x, false)
		}
	}
	for num := range 1 << 7 {
		checkHt(t, name, p, impl.SetOf(num), impl.SetOf(num), false)
		checkHt(t, name, p, nil, impl.SetOf(num), false)
	}
	if got := impl.HtModels(p); len(got) != 0 {
		t.Errorf("%s: HtModels are %q", name, pairTexts(got))
	}
	for _, q := range []impl.Prog{p, {}, {Atoms: 7}, {Atoms: 12}, rulesOf(7, constraint()), rulesOf(12, constraint()), rulesOf(2, plain(1, 2), choice(nil)), pairedProg()} {
		checkStrongIs(t, name, p, q, false)
		checkEqualIs(t, name, p, q, false)
	}
}

// pairedProg is a program of MaxHt Atoms with all that a program has, and with pairs.
func pairedProg() impl.Prog {
	p := wholeProg()
	p.Atoms = 7
	p.Rules = []impl.Rule{plain(2, 3, -4), weighedChoice([]int{2, 3}, 2, wl(1, 2), wl(-4, 1)), constraint(4)}
	p.Levels = []impl.Level{level(-1, wl(2, -3), wl(7, 4)), level(4, wl(-3, 2), wl(5, 0))}
	p.Exts = []impl.Ext{{Atom: 5, V: 1}, {Atom: 6}}
	p.Assume = []int{-4, 5}
	return p
}

// TestStrongOfNoProgram: of each something would be told, but for one change.
func TestStrongOfNoProgram(t *testing.T) {
	p := pairedProg()
	if !impl.ProgOk(p) {
		t.Fatalf("%+v is no program", p)
	}
	checkHt(t, "without a change", p, []int{5}, []int{5}, true)
	checkStrongIs(t, "without a change", p, pairedProg(), true)
	checkEqualIs(t, "without a change", p, pairedProg(), true)
	if len(impl.HtModels(p)) == 0 || impl.Count(p) == 0 {
		t.Errorf("%+v has no pairs or no answers", p)
	}
	changes := noCosts()
	delete(changes, "Atoms below what is there")
	changes["Atoms below what is there by one"] = func(p *impl.Prog) { p.Atoms = 6 }
	changes["Atoms passed by far"] = func(p *impl.Prog) { p.Atoms = 1<<32 + 7 }
	changes["a head that is no atom"] = func(p *impl.Prog) { p.Rules[0].Heads = []int{0} }
	changes["a head above Atoms"] = func(p *impl.Prog) { p.Rules[0].Heads = []int{8} }
	changes["falling heads"] = func(p *impl.Prog) { p.Rules[1].Heads = []int{3, 2} }
	changes["Bound without Weight"] = func(p *impl.Prog) { p.Rules[0].Bound = 1 }
	changes["Bound passed by one"] = func(p *impl.Prog) { p.Rules[1].Bound = 100001 }
	changes["more than MaxBody"] = func(p *impl.Prog) { p.Rules[0].Body = body(times(21, 3)...) }
	for name, change := range changes {
		p := pairedProg()
		change(&p)
		if impl.ProgOk(p) {
			t.Errorf("%s: this is a program", name)
		}
		checkNoPairs(t, name, p)
	}
	for _, p := range append(odd(), impl.Prog{Atoms: -1}, impl.Prog{Atoms: 13}, impl.Prog{Atoms: math.MinInt}, impl.Prog{Atoms: math.MaxInt}) {
		if !impl.ProgOk(p) {
			checkNoPairs(t, "an odd program", p)
		}
	}
}

// TestStrongAndRoom: with just MaxRules rules of Fold there is something to tell, with one more there is nothing.
func TestStrongAndRoom(t *testing.T) {
	for _, c := range []struct {
		name   string
		rules  int
		exts   []impl.Ext
		assume []int
		like   impl.Prog
	}{
		{"MaxRules rules", 60, nil, nil, rulesOf(7, plain(7, 1))},
		{"MaxRules rules with V 0", 59, []impl.Ext{{Atom: 1}}, nil, rulesOf(7, plain(7, 1), choice([]int{1}))},
		{"MaxRules rules with V 1", 59, []impl.Ext{{Atom: 1, V: 1}}, nil, rulesOf(7, plain(7), plain(1))},
		{"V 2 is no rule", 60, []impl.Ext{{Atom: 1, V: 2}}, nil, rulesOf(7, plain(7, 1))},
		{"an external head is no rule", 60, []impl.Ext{{Atom: 7}}, nil, rulesOf(7, plain(7, 1))},
		{"MaxRules rules with what is assumed", 58, nil, []int{-1, -2}, rulesOf(2, constraint(1), constraint(2))},
		{"MaxRules rules with both", 58, []impl.Ext{{Atom: 1}}, []int{7}, rulesOf(7, plain(7, 1), choice([]int{1}), constraint(-7))},
	} {
		p := impl.Prog{Atoms: 7, Rules: times(c.rules, plain(7, 1)), Exts: c.exts, Assume: c.assume}
		checkStrongIs(t, c.name, p, p, true)
		checkStrongIs(t, c.name, p, c.like, true)
		checkEqualIs(t, c.name, p, c.like, true)
		if got, want := pairTexts(impl.HtModels(p)), pairTexts(impl.HtModels(impl.Prog{Atoms: 7, Rules: c.like.Rules})); len(got) == 0 || !slices.Equal(got, want) {
			t.Errorf("%s: HtModels are %q, not %q", c.name, got, want)
		}
		rule, literal := deepCopy(p), deepCopy(p)
		rule.Rules = append(rule.Rules, plain(7, 1))
		literal.Assume = append(literal.Assume, -1)
		checkNoPairs(t, c.name+", and a rule more", rule)
		checkNoPairs(t, c.name+", and a literal more", literal)
	}
	checkNoPairs(t, "MaxRules rules and V 0", impl.Prog{Atoms: 7, Rules: times(60, plain(7, 1)), Exts: []impl.Ext{{Atom: 1}}})
	checkNoPairs(t, "MaxRules rules and V 1", impl.Prog{Atoms: 7, Rules: times(60, plain(7, 1)), Exts: []impl.Ext{{Atom: 1, V: 1}}})
	checkNoPairs(t, "a program at its limits", atLimits())
	// These are the same rules, but too many of them with what is assumed.
	full := impl.Prog{Atoms: 2, Rules: times(60, constraint(1)), Assume: []int{-1}}
	checkNoPairs(t, "MaxRules rules and one literal", full)
	checkStrongIs(t, "MaxRules rules and one literal, against what it says", full, rulesOf(2, constraint(1)), false)
	checkEqualIs(t, "MaxRules rules and one literal, against what it says", full, rulesOf(2, constraint(1)), false)
}

// pairsBy are the pairs of rules by the definition, those of n atoms.
func pairsBy(rules []impl.Rule, n int) []string {
	texts := []string{}
	for there := range 1 << n {
		for here := range 1 << n {
			h, x := impl.SetOf(here), impl.SetOf(there)
			if here&^there == 0 && htModel(rules, h, x) {
				texts = append(texts, pairText(h, x))
			}
		}
	}
	return texts
}

// TestHtModelOfMany: of many programs, with few atoms and with all, and of many sets, what the definition tells.
func TestHtModelOfMany(t *testing.T) {
	from := rand.New(rand.NewSource(60))
	pairs, others, proper := 0, 0, 0
	for range 1500 {
		p := someWhole(from, 1+from.Intn(12))
		if from.Intn(2) == 0 {
			p = someFree(from, 1+from.Intn(12))
		}
		folded, ok := impl.Fold(p)
		if !ok {
			t.Fatalf("%+v is not folded", p)
		}
		for range 40 {
			there := from.Intn(1 << p.Atoms)
			here := there & from.Intn(1<<p.Atoms)
			if from.Intn(2) == 0 && there != 0 {
				here = there &^ (1 << from.Intn(p.Atoms))
			}
			h, x := impl.SetOf(here), impl.SetOf(there)
			is := htModel(folded.Rules, h, x)
			checkHt(t, "one of many", p, h, x, is)
			if here != there && impl.HtModel(p, x, h) {
				t.Fatalf("(%v, %v) is a pair of %+v", x, h, p)
			}
			switch {
			case !is:
				others++
			case here != there:
				proper++
			default:
				pairs++
			}
		}
	}
	if pairs < 1000 || proper < 2000 || others < 10000 {
		t.Errorf("the programs are too much alike: %d sets make a pair with themselves, %d with a lesser part, %d make none", pairs, proper, others)
	}
}

// TestHtModelsOfMany: of many programs of up to five atoms all that the definition tells, and of some up to MaxHt.
func TestHtModelsOfMany(t *testing.T) {
	from := rand.New(rand.NewSource(61))
	none, few, many := 0, 0, 0
	for i := range 1000 {
		n := 1 + from.Intn(5)
		if i%20 == 0 {
			n = 6 + from.Intn(2)
		}
		p := someWhole(from, n)
		if from.Intn(2) == 0 {
			p = someFree(from, n)
		}
		folded, _ := impl.Fold(p)
		want := pairsBy(folded.Rules, n)
		if got := pairTexts(impl.HtModels(p)); !slices.Equal(got, want) {
			t.Fatalf("HtModels(%+v) = %q, not %q", p, got, want)
		}
		switch {
		case len(want) == 0:
			none++
		case len(want) < 8:
			few++
		default:
			many++
		}
	}
	if none < 50 || few < 200 || many < 100 {
		t.Errorf("the programs are too much alike: %d without a pair, %d with few, %d with many", none, few, many)
	}
}

// TestPairsTellAnswers: a set t is an answer just where (t, t) is a pair and no (h, t) with a lesser h is; where (h, t) is one, (t, t) is.
func TestPairsTellAnswers(t *testing.T) {
	from := rand.New(rand.NewSource(62))
	answers, models, others := 0, 0, 0
	for range 1500 {
		p := someWhole(from, 1+from.Intn(5))
		if from.Intn(2) == 0 {
			p = someFree(from, 1+from.Intn(5))
		}
		listed := answersOfWhole(p)
		if !slices.Equal(numsOf(impl.Answers(p)), listed) {
			t.Fatalf("Answers(%+v) = %v, not %v", p, impl.Answers(p), listed)
		}
		pairs := impl.HtModels(p)
		for there := range 1 << p.Atoms {
			x := impl.SetOf(there)
			itself, lesser := impl.HtModel(p, x, x), 0
			for _, pair := range pairs {
				if slices.Equal(pair.T, x) && !slices.Equal(pair.H, x) {
					lesser++
				}
			}
			if is := slices.Contains(listed, there); (itself && lesser == 0) != is || impl.Answer(p, x) != is {
				t.Fatalf("%v is an answer of %+v: %v, though it makes a pair with itself: %v, and %d with lesser parts", x, p, is, itself, lesser)
			}
			switch {
			case !itself && lesser > 0:
				t.Fatalf("%v makes pairs with lesser parts by %+v, and none with itself", x, p)
			case !itself:
				others++
			case lesser > 0:
				models++
			default:
				answers++
			}
		}
	}
	if answers < 1000 || models < 1000 || others < 1000 {
		t.Errorf("the programs are too much alike: %d answers, %d other models, %d other sets", answers, models, others)
	}
}

// TestPairsOfMaxHtTellAnswers: the same, of programs of MaxHt Atoms.
func TestPairsOfMaxHtTellAnswers(t *testing.T) {
	from := rand.New(rand.NewSource(63))
	found := 0
	for range 150 {
		p := someFree(from, 7)
		lesser, itself := map[int]bool{}, map[int]bool{}
		for _, pair := range impl.HtModels(p) {
			if there := impl.SetNum(pair.T); impl.SetNum(pair.H) == there {
				itself[there] = true
			} else {
				lesser[there] = true
			}
		}
		var nums []int
		for there := range 128 {
			if lesser[there] && !itself[there] {
				t.Fatalf("%v makes pairs with lesser parts by %+v, and none with itself", impl.SetOf(there), p)
			}
			if itself[there] && !lesser[there] {
				nums = append(nums, there)
			}
		}
		if got := numsOf(impl.Answers(p)); !slices.Equal(got, nums) {
			t.Fatalf("the answers of %+v are %v, by pairs %v", p, got, nums)
		}
		found += len(nums)
	}
	if found < 300 {
		t.Errorf("the programs are too much alike: %d answers", found)
	}
}

// together is the rules of p, folded, with those of another program, which fit together here.
func together(t *testing.T, p, more impl.Prog) impl.Prog {
	t.Helper()
	folded, ok := impl.Fold(p)
	both, fits := impl.Both(folded, more)
	if !ok || !fits {
		t.Fatalf("%+v and %+v do not go together", p, more)
	}
	return both
}

// tellsApart is a third program, with which p has not the answers of another one; (h, there) is a pair of just one of them.
// Where (there, there) is so too, facts are enough. Otherwise, of the atoms that h lacks, each gives all others.
func tellsApart(p, q impl.Prog, h, there []int) impl.Prog {
	more := impl.Prog{Atoms: max(p.Atoms, q.Atoms)}
	p.Atoms, q.Atoms = more.Atoms, more.Atoms
	facts, left := there, []int(nil)
	if impl.HtModel(p, there, there) == impl.HtModel(q, there, there) {
		facts, left = h, without(there, h)
	}
	for _, a := range facts {
		more.Rules = append(more.Rules, plain(a))
	}
	for i, a := range left {
		more.Rules = append(more.Rules, plain(a, left[(i+1)%len(left)]))
	}
	return more
}

// checkCompany fails where p and q are Strong and have not the same answers with a third program, or where they are not Strong and no third program tells them apart.
func checkCompany(t *testing.T, from *rand.Rand, p, q impl.Prog) bool {
	t.Helper()
	n := max(p.Atoms, q.Atoms)
	fp, _ := impl.Fold(p)
	fq, _ := impl.Fold(q)
	ps, qs := pairsBy(fp.Rules, n), pairsBy(fq.Rules, n)
	is := slices.Equal(ps, qs)
	checkStrongIs(t, "in company", p, q, is)
	checkEqualIs(t, "in no company", p, q, slices.Equal(answersOf(fp.Rules, n), answersOf(fq.Rules, n)))
	if is {
		checkEqualIs(t, "alone", p, q, true)
		for range 4 {
			more := someFree(from, 1+from.Intn(max(n, 1)))
			if len(fp.Rules)+len(more.Rules) <= 50 && len(fq.Rules)+len(more.Rules) <= 50 {
				checkEqualIs(t, "with a third one", together(t, p, more), together(t, q, more), true)
			}
		}
		return true
	}
	for there := range 1 << n {
		for here := range 1 << n {
			h, x := impl.SetOf(here), impl.SetOf(there)
			if text := pairText(h, x); slices.Contains(ps, text) != slices.Contains(qs, text) {
				more := tellsApart(fp, fq, h, x)
				checkEqualIs(t, "with what tells them apart", together(t, p, more), together(t, q, more), false)
			}
		}
	}
	return false
}

// TestStrongInCompany: of small programs, which are often Strong or nearly so.
func TestStrongInCompany(t *testing.T) {
	from := rand.New(rand.NewSource(64))
	strong, not, equal := 0, 0, 0
	for range 3000 {
		p, q := impl.Prog{Atoms: 1 + from.Intn(2)}, impl.Prog{Atoms: 1 + from.Intn(2)}
		for range 1 + from.Intn(3) {
			p.Rules = append(p.Rules, someRule(from, p.Atoms))
			q.Rules = append(q.Rules, someRule(from, q.Atoms))
		}
		if from.Intn(4) == 0 {
			p.Assume, q.Exts = []int{1 - 2*from.Intn(2)}, []impl.Ext{{Atom: 1, V: from.Intn(3)}}
		}
		switch is := checkCompany(t, from, p, q); {
		case is:
			strong++
		case impl.Equal(p, q):
			equal++
		default:
			not++
		}
	}
	if strong < 300 || equal < 200 || not < 1000 {
		t.Errorf("the programs are too much alike: %d are Strong, %d have but the same answers, %d others", strong, equal, not)
	}
}

// nearly is a program with one change, after which it is often Strong with what it was.
func nearly(from *rand.Rand, p impl.Prog) impl.Prog {
	q := deepCopy(p)
	i := from.Intn(len(q.Rules))
	r := &q.Rules[i]
	switch from.Intn(8) {
	case 0:
		q.Rules = slices.Delete(q.Rules, i, i+1)
	case 1:
		q.Rules = append(q.Rules, someRule(from, q.Atoms))
	case 2:
		if r.Body = slices.Clone(r.Body); len(r.Body) > 0 {
			r.Body = r.Body[1:]
		}
	case 3:
		r.Body = append(r.Body, wl((1+from.Intn(q.Atoms))*(1-2*from.Intn(2)), 1))
	case 4:
		if len(r.Heads) == 1 {
			r.Choice = !r.Choice
		}
	case 5:
		if len(r.Body) > 0 {
			r.Body[0].L = -r.Body[0].L
		}
	case 6:
		if r.Weight {
			r.Bound++
		}
	default:
		q.Atoms++
		q.Rules = append(q.Rules, plain(1+from.Intn(q.Atoms), q.Atoms, -(1+from.Intn(q.Atoms))))
	}
	return q
}

// TestStrongWithOneChange: of programs of up to three atoms, and what one change makes of them.
func TestStrongWithOneChange(t *testing.T) {
	from := rand.New(rand.NewSource(65))
	strong, not, more := 0, 0, 0
	for range 3000 {
		p := impl.Prog{Atoms: 1 + from.Intn(3)}
		for range 1 + from.Intn(4) {
			p.Rules = append(p.Rules, someRule(from, p.Atoms))
		}
		q := nearly(from, p)
		if checkCompany(t, from, p, q) {
			strong++
			if q.Atoms > p.Atoms {
				more++
			}
		} else {
			not++
		}
	}
	if strong < 300 || not < 500 || more < 50 {
		t.Errorf("the programs are too much alike: %d are Strong with what they were, %d of them of more atoms, %d are not", strong, more, not)
	}
}

// TestStrongWithItself: with its rules in another order, with one of them twice, folded, of more atoms, and with what it always says.
func TestStrongWithItself(t *testing.T) {
	from := rand.New(rand.NewSource(66))
	for range 800 {
		n := 1 + from.Intn(7)
		p := someWhole(from, n)
		if from.Intn(2) == 0 {
			p = someFree(from, n)
		}
		checkStrongIs(t, "itself", p, p, true)
		checkStrongIs(t, "a copy", p, deepCopy(p), true)
		checkEqualIs(t, "itself", p, deepCopy(p), true)
		folded, _ := impl.Fold(p)
		checkStrongIs(t, "folded", p, folded, true)
		q := deepCopy(p)
		from.Shuffle(len(q.Rules), func(i, j int) { q.Rules[i], q.Rules[j] = q.Rules[j], q.Rules[i] })
		checkStrongIs(t, "another order", p, q, true)
		if len(q.Rules) > 0 {
			q.Rules = append(q.Rules, q.Rules[from.Intn(len(q.Rules))])
			checkStrongIs(t, "one rule twice", p, q, true)
		}
		q.Rules = append(q.Rules, plain(1+from.Intn(n), 1, -1), choice([]int{n}, n))
		q.ProjOn, q.Project, q.Shows, q.Levels = false, nil, nil, nil
		if len(p.Exts) == 0 {
			checkStrongIs(t, "with what always holds", p, q, true)
		}
		q = deepCopy(p)
		q.Atoms = n + from.Intn(8-n)
		checkStrongIs(t, "more atoms", p, q, true)
		checkEqualIs(t, "more atoms", p, q, true)
	}
}

// TestTidyIsStrongWithIt: of a program without external atoms the tidy one, with whatever is assumed.
func TestTidyIsStrongWithIt(t *testing.T) {
	from := rand.New(rand.NewSource(67))
	less, company := 0, 0
	for range 1500 {
		p := impl.Prog{Atoms: 1 + from.Intn(7)}
		for range 1 + from.Intn(5) {
			p.Rules = append(p.Rules, someRuleOfAny(from, p.Atoms))
		}
		if from.Intn(2) == 0 {
			p.Assume = someLiterals(from, p.Atoms)
		}
		tidy := impl.Tidy(p)
		checkStrongIs(t, "tidy", p, tidy, true)
		checkEqualIs(t, "tidy", p, tidy, true)
		if len(tidy.Rules) < len(p.Rules) {
			less++
		}
		more := someFree(from, 1+from.Intn(7))
		if len(more.Rules) < 40 {
			company++
			checkEqualIs(t, "tidy, with a third one", together(t, p, more), together(t, tidy, more), true)
		}
	}
	if less < 300 || company < 1000 {
		t.Errorf("the programs are too much alike: %d lose a rule, %d are asked in company", less, company)
	}
}

// TestStrongAtLimits: as many rules and literals as may be, of MaxHt Atoms.
func TestStrongAtLimits(t *testing.T) {
	from := rand.New(rand.NewSource(68))
	p := impl.Prog{Atoms: 7}
	for len(p.Rules) < 60 {
		var row []impl.WLit
		for range 20 {
			row = append(row, wl((1+from.Intn(7))*(1-2*from.Intn(2)), 1000))
		}
		p.Rules = append(p.Rules, weighedChoice(impl.SetOf(127), 10000+1000*from.Intn(5), row...))
	}
	checkStrongIs(t, "at its limits", p, p, true)
	if got, want := pairTexts(impl.HtModels(p)), pairsBy(p.Rules, 7); !slices.Equal(got, want) {
		t.Errorf("at its limits HtModels are %q, not %q", got, want)
	}
	most := impl.Prog{Atoms: 12, Rules: times(60, weighedChoice(impl.SetOf(4095), -100000, times(20, wl(-12, 1000))...))}
	checkHt(t, "at its limits", most, impl.SetOf(4095), impl.SetOf(4095), true)
	checkHt(t, "at its limits", most, impl.SetOf(2047), impl.SetOf(4095), false)
	checkEqualIs(t, "at its limits", most, rulesOf(12, choice(impl.SetOf(4095))), true)
}

// TestStrongIsAlwaysTheSame: however often it is asked, by however many at once.
func TestStrongIsAlwaysTheSame(t *testing.T) {
	p, q := rulesOf(2, plain(1, -2)), rulesOf(2, plain(1))
	byMany(50, func() {
		checkPairs(t, "again", p, "1/1", "/2", "2/2", "/1 2", "1/1 2", "2/1 2", "1 2/1 2")
		checkStrongIs(t, "again", p, q, false)
		checkStrongIs(t, "again", p, p, true)
		checkEqualIs(t, "again", p, q, true)
	})
}

// likeable are programs, and what is none, for calls that must leave them as they are.
func likeable() []impl.Prog {
	return append(reasonable(), pairedProg(),
		impl.Prog{Atoms: 7, Rules: []impl.Rule{choice(impl.SetOf(127)), weighed([]int{3}, 2, wl(1, 1), wl(-2, 1), wl(7, 1))}, Exts: []impl.Ext{{Atom: 1, V: 2}}},
		impl.Prog{Atoms: 3, Rules: []impl.Rule{choice([]int{1, 3}), plain(2, 3, -1), constraint(1, 2)}, Exts: []impl.Ext{{Atom: 1}, {Atom: 2, V: 1}}, Assume: []int{3}},
		impl.Prog{Atoms: 4, Rules: loop(1, 2, 4)},
	)
}

func TestStrongArgumentsAreKept(t *testing.T) {
	for i, made := range likeable() {
		other := likeable()[(i+1)%len(likeable())]
		keeping(t, "HtModels", withSpare(made), func(p impl.Prog) { impl.HtModels(p) })
		q := withSpare(other)
		keeping(t, "Strong", withSpare(made), func(p impl.Prog) { impl.Strong(p, q) })
		keeping(t, "Strong", withSpare(made), func(p impl.Prog) { impl.Strong(q, p) })
		keeping(t, "Strong", withSpare(made), func(p impl.Prog) { impl.Strong(p, p) })
		keeping(t, "Equal", withSpare(made), func(p impl.Prog) { impl.Equal(p, q) })
		keeping(t, "Equal", withSpare(made), func(p impl.Prog) { impl.Equal(q, p) })
		for j, x := range lists {
			h, there := withSpare(x), withSpare(lists[(j+i)%len(lists)])
			keeping(t, "HtModel", withSpare(made), func(p impl.Prog) { impl.HtModel(p, h, there) })
			keeping(t, "HtModel", withSpare(made), func(p impl.Prog) { impl.HtModel(p, h, h) })
			checkKept(t, "HtModel", h, x)
			checkKept(t, "HtModel", there, lists[(j+i)%len(lists)])
		}
	}
}

func TestStrongSpareIsNotRead(t *testing.T) {
	for _, made := range likeable() {
		p := withSpare(made)
		if !alike(impl.HtModels(p), impl.HtModels(made)) {
			t.Errorf("the room behind the lists of %+v is read", made)
		}
		for _, other := range likeable() {
			checkStrongIs(t, "with room behind the lists", p, withSpare(other), impl.Strong(made, other))
			checkEqualIs(t, "with room behind the lists", p, withSpare(other), impl.Equal(made, other))
		}
		for _, x := range lists {
			for num := range 16 {
				h, there := impl.SetOf(num), impl.SetJoin(impl.SetOf(num), x)
				checkHt(t, "with room behind the lists", p, withSpare(h), withSpare(there), impl.HtModel(made, h, there))
				checkHt(t, "with room behind the lists", p, withSpare(x), withSpare(there), impl.HtModel(made, x, there))
			}
		}
	}
	p := impl.Prog{Atoms: 3, Rules: []impl.Rule{plain(2), plain(1, 2), constraint(2)}[:2]}
	checkHt(t, "an atom behind h", p, []int{1, 2, 3}[:2], []int{1, 2}, true)
	checkHt(t, "an atom behind t", p, []int{1, 2}, []int{1, 2, 2}[:2], true)
	checkHt(t, "an atom behind h that lacks", p, []int{1, 2}[:1], []int{1, 2}, false)
	checkPairs(t, "a rule behind Rules", p, "1 2/1 2", "1 2/1 2 3", "1 2 3/1 2 3")
	checkStrongIs(t, "a rule behind Rules", p, rulesOf(3, plain(1), plain(2)), true)
	checkEqualIs(t, "a rule behind Rules", p, rulesOf(3, plain(1), plain(2)), true)
}

func TestPairsAreNew(t *testing.T) {
	for _, made := range likeable() {
		p := withSpare(made)
		all := []any{p}
		for range 2 {
			pairs := impl.HtModels(p)
			handsOutNothing(t, "HtModels", reflect.ValueOf(pairs))
			all = append(all, pairs)
		}
		checkApart(t, "HtModels", all...)
	}
	p := rulesOf(3, plain(3), choice([]int{1, 2}))
	for range 2 {
		for i, pair := range impl.HtModels(p) {
			overwrite(pair.H, -1-i)
			if want := []string{"3", "1 3", "2 3", "1 2 3"}[i]; textOf(pair.T) != want {
				t.Errorf("pair %s: where H is written into, T is %v, not %s", strconv.Itoa(i), pair.T, want)
			}
			overwrite(pair.T, -1-i)
		}
		pairs := impl.HtModels(p)
		clear(pairs)
	}
	checkPairs(t, "where some are written into", p, "3/3", "1 3/1 3", "2 3/2 3", "1 2 3/1 2 3")
}
