package tests

import (
	"math"
	"math/rand"
	"reflect"
	"slices"
	"testing"

	"loop.example/g00554/impl"
)

// checkWell fails where p is not Plain, or its two sets are other ones, or Settled does not tell whether they are the same.
func checkWell(t *testing.T, name string, p impl.Prog, must, may string) {
	t.Helper()
	if !impl.Plain(p) {
		t.Errorf("%s: Plain(%+v) is false", name, p)
	}
	one, two, ok := impl.WellFounded(p)
	if !ok || textOf(one) != must || textOf(two) != may {
		t.Errorf("%s: WellFounded(%+v) = %v, %v, %v, not %q and %q", name, p, one, two, ok, must, may)
	}
	if impl.Settled(p) != (must == may) {
		t.Errorf("%s: Settled(%+v) is not %v", name, p, must == may)
	}
}

// checkNotPlain fails where something is told of what is not Plain.
func checkNotPlain(t *testing.T, name string, p impl.Prog) {
	t.Helper()
	if impl.Plain(p) || impl.Settled(p) {
		t.Errorf("%s: Plain(%+v) is %v, Settled %v", name, p, impl.Plain(p), impl.Settled(p))
	}
	if one, two, ok := impl.WellFounded(p); ok || len(one) != 0 || len(two) != 0 {
		t.Errorf("%s: WellFounded(%+v) = %v, %v, %v", name, p, one, two, ok)
	}
	if cut, ok := impl.Cut(p); ok || !alike(cut, impl.Prog{}) {
		t.Errorf("%s: Cut(%+v) = %+v, %v", name, p, cut, ok)
	}
}

// checkCut fails where what is left of p is another one.
func checkCut(t *testing.T, name string, p, want impl.Prog) {
	t.Helper()
	if got, ok := impl.Cut(p); !ok || !alike(got, want) {
		t.Errorf("%s: Cut(%+v) = %+v, %v, not %+v", name, p, got, ok, want)
	}
}

type wellCase struct {
	name  string
	rules []impl.Rule
	must  string
	may   string
}

// checkWells asks of programs of six atoms.
func checkWells(t *testing.T, cases []wellCase) {
	t.Helper()
	for _, c := range cases {
		checkWell(t, c.name, impl.Prog{Atoms: 6, Rules: c.rules}, c.must, c.may)
	}
}

// either gives one of two atoms where the other one is not there, so that neither must be.
func either(a, b int) []impl.Rule {
	return []impl.Rule{plain(a, -b), plain(b, -a)}
}

func TestPlain(t *testing.T) {
	all := impl.SetOf(63)
	for _, c := range []struct {
		name   string
		rules  []impl.Rule
		exts   []impl.Ext
		assume []int
		want   bool
	}{
		{"no rules", nil, nil, nil, true},
		{"a fact", []impl.Rule{plain(1)}, nil, nil, true},
		{"all but Choice", []impl.Rule{plain(1, -2), constraint(1, 3), weighed([]int{2}, 2, wl(1, 1), wl(-3, 1)), weighed(nil, 0), constraint()}, nil, nil, true},
		{"a choice", []impl.Rule{choice([]int{1})}, nil, nil, false},
		{"a choice of all", []impl.Rule{choice(all)}, nil, nil, false},
		{"a choice ahead of others", []impl.Rule{choice([]int{1, 2}, 3), plain(3), constraint(2)}, nil, nil, false},
		{"a choice among others", []impl.Rule{plain(3), choice([]int{1, 2}, 3), constraint(2)}, nil, nil, false},
		{"a choice behind others", []impl.Rule{plain(3), constraint(2), choice([]int{1, 2}, 3)}, nil, nil, false},
		{"a choice whose body never holds", []impl.Rule{choice([]int{1}, 2, -2)}, nil, nil, false},
		{"a choice of what is a fact", []impl.Rule{plain(1), choice([]int{1})}, nil, nil, false},
		{"a choice with weights", []impl.Rule{weighedChoice([]int{1}, 5, wl(2, 1))}, nil, nil, false},

		{"V 0", nil, []impl.Ext{{Atom: 1}}, nil, false},
		{"V 1", nil, []impl.Ext{{Atom: 1, V: 1}}, nil, true},
		{"V 2", nil, []impl.Ext{{Atom: 1, V: 2}}, nil, true},
		{"V 0 behind others", []impl.Rule{plain(1), plain(2)}, []impl.Ext{{Atom: 1, V: 1}, {Atom: 2, V: 2}, {Atom: 6}}, nil, false},
		{"V 0 of an atom in bodies alone", []impl.Rule{plain(1, 2), constraint(-2)}, []impl.Ext{{Atom: 2}}, nil, false},
		{"V 0 of a head", []impl.Rule{plain(1, 2)}, []impl.Ext{{Atom: 1}}, nil, true},
		{"V 0 of a head, and of one that is none", []impl.Rule{plain(1, 2)}, []impl.Ext{{Atom: 1}, {Atom: 2}}, nil, false},
		{"V 0 of a head with weights", []impl.Rule{weighed([]int{4}, 9)}, []impl.Ext{{Atom: 4}}, nil, true},
		{"V 0 of a choice's head", []impl.Rule{choice([]int{1})}, []impl.Ext{{Atom: 1}}, nil, false},
		{"each V of a head", []impl.Rule{plain(1), plain(2, 1), plain(3, -1)}, allExts(), nil, true},

		{"assumed", nil, nil, []int{1, -2, 2}, true},
		{"assumed of what is external with V 0", nil, []impl.Ext{{Atom: 1}}, []int{1}, false},
		{"assumed of what is external with V 1", nil, []impl.Ext{{Atom: 1, V: 1}}, []int{1}, true},
	} {
		p := impl.Prog{Atoms: 6, Rules: c.rules, Exts: c.exts, Assume: c.assume}
		if impl.Plain(p) != c.want {
			t.Errorf("%s: Plain(%+v) is not %v", c.name, p, c.want)
		}
		if !c.want {
			checkNotPlain(t, c.name, p)
		}
	}
}

func TestWellFounded(t *testing.T) {
	checkWells(t, []wellCase{
		{"no rules", nil, "", ""},
		{"a fact", []impl.Rule{plain(3)}, "3", "3"},
		{"facts", []impl.Rule{plain(5), plain(1)}, "1 5", "1 5"},
		{"a chain, behind each other", []impl.Rule{plain(1, 2), plain(2, 3), plain(3)}, "1 2 3", "1 2 3"},
		{"a body that is not made", []impl.Rule{plain(1, 2)}, "", ""},
		{"a circle", loop(1, 2, 3), "", ""},
		{"a circle with a way in", append(loop(1, 2, 3), plain(2)), "1 2 3", "1 2 3"},
		{"below 0 of what is not made", []impl.Rule{plain(1, -2)}, "1", "1"},
		{"below 0 of a circle", append(loop(2, 3), plain(1, -2)), "1", "1"},
		{"below 0 of a fact", []impl.Rule{plain(1, -2), plain(2)}, "2", "2"},
		{"either of two", either(1, 2), "", "1 2"},
		{"either of two, and a fact", append(either(1, 2), plain(3)), "3", "1 2 3"},
		{"one of either a fact", append(either(1, 2), plain(1)), "1", "1"},
		{"one of either on what is not made", []impl.Rule{plain(1, -2, 3), plain(2, -1)}, "2", "2"},
		{"what both of either give", append(either(1, 2), plain(3, 1), plain(3, 2)), "", "1 2 3"},
		{"what neither of either would give", append(either(1, 2), plain(3, -1, -2)), "", "1 2 3"},
		{"what both of either together give", append(either(1, 2), plain(3, 1, 2)), "", "1 2 3"},
		{"itself below 0", []impl.Rule{plain(1, -1)}, "", "1"},
		{"itself below 0, and a fact", []impl.Rule{plain(1, -1), plain(1)}, "1", "1"},
		{"itself below 0, and what is not made", []impl.Rule{plain(1, -1, 2)}, "", ""},
		{"an odd circle of three", []impl.Rule{plain(1, -2), plain(2, -3), plain(3, -1)}, "", "1 2 3"},
		{"what an odd circle holds back", []impl.Rule{plain(1, -1), plain(2, -1), plain(3, -2)}, "", "1 2 3"},
		{"both literals of what must be", []impl.Rule{plain(2), plain(1, 2, -2)}, "2", "2"},
		{"both literals of what may be", append(either(2, 3), plain(1, 2, -2)), "", "1 2 3"},
	})
}

// TestWellFoundedGrows: programs in which what must be is not known at once.
func TestWellFoundedGrows(t *testing.T) {
	checkWells(t, []wellCase{
		{"once", []impl.Rule{plain(1), plain(2, -1)}, "1", "1"},
		{"twice", []impl.Rule{plain(1), plain(2, -1), plain(3, -2)}, "1 3", "1 3"},
		{"three times", []impl.Rule{plain(1), plain(2, -1), plain(3, -2), plain(4, -3), plain(5, -4)}, "1 3 5", "1 3 5"},
		{"three times, from nothing on", []impl.Rule{plain(5, -6), plain(4, -5), plain(3, -4), plain(2, -3), plain(1, -2)}, "1 3 5", "1 3 5"},
		{"twice, and it stays open beside", append(either(4, 5), plain(1), plain(2, -1), plain(3, -2)), "1 3", "1 3 4 5"},
		{"until either of two is told", append(either(4, 5), plain(1), plain(2, -1), plain(3, -2), plain(4, 3)), "1 3 4", "1 3 4"},
		{"until either of two stays open", append(either(4, 5), plain(1), plain(2, -1), plain(6, 2), plain(6, 4)), "1", "1 4 5 6"},
		{"what may be grows less", []impl.Rule{plain(1), plain(2, -1), plain(3, 2), plain(4, -3, -4), plain(5, -4)}, "1", "1 4 5"},
		{"a circle falls", append(loop(3, 4), plain(1), plain(2, -1), plain(3, 2), plain(5, -4)), "1 5", "1 5"},
		{"with weights", []impl.Rule{plain(1), weighed([]int{2}, 1, wl(-1, 1)), weighed([]int{3}, 2, wl(-2, 1), wl(1, 1))}, "1 3", "1 3"},
	})
}

// TestWellFoundedAsks: what is above 0 is asked of the set that is made, what is below 0 of the other one; each program has other sets if it were not so.
func TestWellFoundedAsks(t *testing.T) {
	checkWells(t, []wellCase{
		{"above 0 of what may be", append(either(1, 2), plain(3, 1)), "", "1 2 3"},
		{"above 0 of what may be, and then below", append(either(1, 2), plain(3, 1), plain(4, -3)), "", "1 2 3 4"},
		{"above 0 of what is asked alone", append(either(5, 6), plain(1, 2, -5), plain(2, 1)), "", "5 6"},
		{"below 0 of what must not be made first", []impl.Rule{plain(1), plain(3, -2), plain(2, 1)}, "1 2", "1 2"},
		{"below 0 of what is made at last", []impl.Rule{plain(3, -2), plain(2, 1), plain(1, -4), plain(4, -5)}, "3 4", "3 4"},
		{"either literal by weights", append(either(1, 2), weighed([]int{3}, 1, wl(1, 1), wl(-1, 1))), "", "1 2 3"},
		{"both literals by weights", append(either(1, 2), weighed([]int{3}, 2, wl(1, 1), wl(-1, 1))), "", "1 2 3"},
		{"a head that its body refuses", append(either(1, 2), plain(3, -3, 1)), "", "1 2 3"},
	})
}

func TestWellFoundedByWeights(t *testing.T) {
	row := []impl.WLit{wl(2, 2), wl(-3, 1)}
	open := either(3, 4)
	checkWells(t, []wellCase{
		{"Bound below 0", []impl.Rule{weighed([]int{1}, -1, row...)}, "1", "1"},
		{"Bound 0", []impl.Rule{weighed([]int{1}, 0, row...)}, "1", "1"},
		{"Bound 0 of nothing", []impl.Rule{weighed([]int{1}, 0)}, "1", "1"},
		{"Bound 1 of nothing", []impl.Rule{weighed([]int{1}, 1)}, "", ""},
		{"the one below 0", []impl.Rule{weighed([]int{1}, 1, row...)}, "1", "1"},
		{"the one above 0", []impl.Rule{weighed([]int{1}, 2, row...)}, "", ""},
		{"the one above 0, made", []impl.Rule{plain(2), plain(3), weighed([]int{1}, 2, row...)}, "1 2 3", "1 2 3"},
		{"both", []impl.Rule{plain(2), weighed([]int{1}, 3, row...)}, "1 2", "1 2"},
		{"both, one of them not", []impl.Rule{plain(2), plain(3), weighed([]int{1}, 3, row...)}, "2 3", "2 3"},
		{"Bound above the sum", []impl.Rule{plain(2), weighed([]int{1}, 4, row...)}, "2", "2"},
		{"the one below 0 is open", append(open, weighed([]int{1}, 1, row...)), "", "1 3 4"},
		{"the one below 0 is open, and not needed", append(open, plain(2), weighed([]int{1}, 2, row...)), "1 2", "1 2 3 4"},
		{"the one below 0 is open, and needed", append(open, plain(2), weighed([]int{1}, 3, row...)), "2", "1 2 3 4"},
		{"the one above 0 is open", append(either(2, 4), plain(3), weighed([]int{1}, 2, row...)), "3", "1 2 3 4"},
		{"the one above 0 is open, and too light", append(either(2, 4), plain(3), weighed([]int{1}, 3, row...)), "3", "2 3 4"},
		{"one of two open ones", append(open, weighed([]int{1}, 1, wl(3, 1), wl(4, 1))), "", "1 3 4"},
		{"itself and an open one", append(open, weighed([]int{1}, 2, wl(1, 1), wl(-3, 1))), "", "3 4"},
		{"a literal twice", append(open, plain(2), weighed([]int{1}, 4, wl(2, 2), wl(2, 2))), "1 2", "1 2 3 4"},
		{"on each other", []impl.Rule{weighed([]int{1}, 1, wl(2, 1), wl(-3, 1)), weighed([]int{3}, 1, wl(4, 1), wl(-1, 1))}, "", "1 3"},
		{"without a head", append(open, weighed(nil, 0), weighed(nil, 1, wl(3, 1), wl(-2, 1))), "", "3 4"},
	})
}

// TestWellFoundedAndConstraints: a rule without a head makes nothing, and leaves what is made as it is.
func TestWellFoundedAndConstraints(t *testing.T) {
	checkWells(t, []wellCase{
		{"of no literal", []impl.Rule{constraint(), plain(1)}, "1", "1"},
		{"of a fact", []impl.Rule{plain(1), constraint(1)}, "1", "1"},
		{"of one of either", append(either(1, 2), constraint(1)), "", "1 2"},
		{"of what must be there", append(either(1, 2), constraint(-1)), "", "1 2"},
		{"alone", []impl.Rule{constraint(-1), constraint(1, 2)}, "", ""},
	})
	open := either(1, 2)
	for _, c := range []struct {
		name   string
		rules  []impl.Rule
		assume []int
		must   string
		may    string
	}{
		{"assumed, one of either", open, []int{1}, "", "1 2"},
		{"assumed, not one of either", open, []int{-1}, "", "1 2"},
		{"assumed, what is not made", open, []int{3}, "", "1 2"},
		{"assumed, what is not made, below 0", open, []int{-3}, "", "1 2"},
		{"assumed, a fact, and what hangs on it", []impl.Rule{plain(1), plain(2, 1)}, []int{-1}, "1 2", "1 2"},
		{"assumed, both of an atom", open, []int{1, -1, 2, 2}, "", "1 2"},
		{"assumed alone", nil, []int{1, -2}, "", ""},
	} {
		checkWell(t, c.name, impl.Prog{Atoms: 6, Rules: c.rules, Assume: c.assume}, c.must, c.may)
	}
}

func TestWellFoundedOfExts(t *testing.T) {
	hanging := []impl.Rule{plain(2, 1), plain(3, -1)}
	for _, c := range []struct {
		name  string
		rules []impl.Rule
		exts  []impl.Ext
		must  string
		may   string
	}{
		{"V 1 alone", nil, []impl.Ext{{Atom: 1, V: 1}}, "1", "1"},
		{"V 2 alone", nil, []impl.Ext{{Atom: 1, V: 2}}, "", ""},
		{"V 1, and what hangs on it", hanging, []impl.Ext{{Atom: 1, V: 1}}, "1 2", "1 2"},
		{"V 2, and what hangs on it", hanging, []impl.Ext{{Atom: 1, V: 2}}, "3", "3"},
		{"V 1 of a head", hanging, []impl.Ext{{Atom: 2, V: 1}}, "3", "3"},
		{"V 2 of a head", hanging, []impl.Ext{{Atom: 3, V: 2}}, "3", "3"},
		{"V 0 of a head", hanging, []impl.Ext{{Atom: 2}, {Atom: 3}}, "3", "3"},
		{"both", hanging, []impl.Ext{{Atom: 1, V: 2}, {Atom: 2, V: 1}, {Atom: 4, V: 1}, {Atom: 5, V: 2}}, "3 4", "3 4"},
		{"one of either with V 1", either(1, 2), []impl.Ext{{Atom: 1, V: 1}}, "", "1 2"},
		{"what closes either, with V 1", append(either(1, 2), plain(1, 3)), []impl.Ext{{Atom: 3, V: 1}}, "1 3", "1 3"},
	} {
		checkWell(t, c.name, impl.Prog{Atoms: 6, Rules: c.rules, Exts: c.exts}, c.must, c.may)
	}
}

func TestWellFoundedOfNoAtoms(t *testing.T) {
	for name, p := range map[string]impl.Prog{
		"the zero program": {},
		"empty lists":      {Rules: []impl.Rule{}, Exts: []impl.Ext{}, Assume: []int{}},
		"constraints":      {Rules: []impl.Rule{constraint(), weighed(nil, 0), weighed(nil, 1)}},
	} {
		checkWell(t, name, p, "", "")
		checkCut(t, name, p, p)
	}
}

func TestWellFoundedOfMaxAtoms(t *testing.T) {
	all := impl.SetOf(4095)
	var chain, facts []impl.Rule
	for a := 1; a <= 12; a++ {
		facts = append(facts, plain(a))
	}
	for a := 1; a < 12; a++ {
		chain = append(chain, plain(a, -(a+1)))
	}
	checkWell(t, "no rules", impl.Prog{Atoms: 12}, "", "")
	checkWell(t, "facts", impl.Prog{Atoms: 12, Rules: facts}, textOf(all), textOf(all))
	checkWell(t, "a ring", impl.Prog{Atoms: 12, Rules: loop(all...)}, "", "")
	checkWell(t, "an even circle of all", impl.Prog{Atoms: 12, Rules: evenCircle()}, "", textOf(all))
	checkWell(t, "it grows six times", impl.Prog{Atoms: 12, Rules: chain}, "1 3 5 7 9 11", "1 3 5 7 9 11")
	checkWell(t, "the greatest atom is a fact", impl.Prog{Atoms: 12, Rules: append(chain, plain(12))}, "2 4 6 8 10 12", "2 4 6 8 10 12")
	checkWell(t, "the greatest atom refuses itself", impl.Prog{Atoms: 12, Rules: append(chain, plain(12, -12))}, "", textOf(all))
	cut := impl.Prog{Atoms: 12}
	for a := 1; a <= 12; a += 2 {
		cut.Rules = append(cut.Rules, plain(a))
	}
	checkCut(t, "it grows six times", impl.Prog{Atoms: 12, Rules: chain}, cut)
	checkCut(t, "an even circle of all", impl.Prog{Atoms: 12, Rules: evenCircle()}, impl.Prog{Atoms: 12, Rules: evenCircle()})
}

// TestCutRule: 1 must be, 2 may not be, 3 and 4 may be and need not; one rule more, and what is left of it.
func TestCutRule(t *testing.T) {
	settled := append(either(3, 4), plain(1))
	heavy := []impl.WLit{wl(1, 3), wl(-2, 2), wl(2, 4), wl(-1, 1), wl(3, 1)}
	for _, c := range []struct {
		name string
		rule impl.Rule
		want []impl.Rule
	}{
		{"a fact", plain(5), []impl.Rule{plain(5)}},
		{"above 0, must be", plain(5, 1), []impl.Rule{plain(5)}},
		{"above 0, may not be", plain(5, 2), nil},
		{"above 0, open", plain(5, 3), []impl.Rule{plain(5, 3)}},
		{"below 0, must be", plain(5, -1), nil},
		{"below 0, may not be", plain(5, -2), []impl.Rule{plain(5)}},
		{"below 0, open", plain(5, -3), []impl.Rule{plain(5, -3)}},
		{"an atom of no rule", plain(5, -6, 3), []impl.Rule{plain(5, 3)}},
		{"an atom of no rule, above 0", plain(5, 6, 3), nil},
		{"all that is left out", plain(5, 1, -2, -6), []impl.Rule{plain(5)}},
		{"some of each, in their order", plain(5, -4, 1, 3, -2, -3, 4), []impl.Rule{plain(5, -4, 3, -3, 4)}},
		{"an open literal twice", plain(5, 3, 1, 3), []impl.Rule{plain(5, 3, 3)}},
		{"an open literal below 0 twice", plain(5, -3, -2, -3), []impl.Rule{plain(5, -3, -3)}},
		{"what must be twice", plain(5, 1, 1), []impl.Rule{plain(5)}},
		{"what may not be, below 0, twice", plain(5, -2, 4, -2), []impl.Rule{plain(5, 4)}},
		{"it goes for the last literal", plain(5, 1, -2, 3, 2), nil},
		{"it goes for the first literal", plain(5, -1, 3, 1), nil},
		{"it goes for one in the middle", plain(5, 3, 2, -4), nil},
		{"both literals of what must be", plain(5, 1, -1), nil},
		{"both literals of what may not be", plain(5, -2, 2), nil},
		{"both literals of an open one", plain(5, 3, -3), []impl.Rule{plain(5, 3, -3)}},
		{"itself above 0", plain(5, 5), nil},
		{"itself below 0", plain(5, -5), []impl.Rule{plain(5, -5)}},
		{"another rule of what must be", plain(1, 3), []impl.Rule{plain(1, 3)}},
		{"another rule of what must be, that goes", plain(1, 2), nil},
		{"of what must be, itself above 0", plain(1, 1), []impl.Rule{plain(1)}},
		{"of what must be, itself below 0", plain(1, -1), nil},

		{"a constraint of no literal", constraint(), []impl.Rule{constraint()}},
		{"a constraint that becomes empty", constraint(1, -2), []impl.Rule{constraint()}},
		{"a constraint that goes, above 0", constraint(3, 2), nil},
		{"a constraint that goes, below 0", constraint(-1, 3), nil},
		{"a constraint with less", constraint(1, 3, -2, -4), []impl.Rule{constraint(3, -4)}},
		{"a constraint that stays", constraint(3, -4), []impl.Rule{constraint(3, -4)}},

		{"weights that are reached", weighed([]int{5}, 5, heavy...), []impl.Rule{weighed([]int{5}, 5, heavy...)}},
		{"weights that are not reached", weighed([]int{5}, 10, heavy...), []impl.Rule{weighed([]int{5}, 10, heavy...)}},
		{"weights that are open", weighed([]int{5}, 6, heavy...), []impl.Rule{weighed([]int{5}, 6, heavy...)}},
		{"weights without a head", weighed(nil, 5, heavy...), []impl.Rule{weighed(nil, 5, heavy...)}},
		{"Bound 0", weighed([]int{5}, 0, heavy...), []impl.Rule{weighed([]int{5}, 0, heavy...)}},
		{"Bound below 0", weighed([]int{5}, -3), []impl.Rule{weighed([]int{5}, -3)}},
		{"all W 1, all settled", weighed([]int{5}, 2, wl(1, 1), wl(-2, 1)), []impl.Rule{weighed([]int{5}, 2, wl(1, 1), wl(-2, 1))}},
	} {
		for i := range len(settled) + 1 {
			rules := slices.Insert(slices.Clone(settled), i, c.rule)
			left := slices.Insert(slices.Clone(settled), i, c.want...)
			checkCut(t, c.name, impl.Prog{Atoms: 6, Rules: rules}, impl.Prog{Atoms: 6, Rules: left})
		}
	}
}

// TestCutByWhatGrows: a rule goes, or has less, by what is settled at last alone.
func TestCutByWhatGrows(t *testing.T) {
	grown := []impl.Rule{plain(1), plain(2, -1), plain(3, -2), plain(4, -3), plain(5, -4, 3)}
	checkCut(t, "all is settled", impl.Prog{Atoms: 6, Rules: grown}, impl.Prog{Atoms: 6, Rules: []impl.Rule{plain(1), plain(3), plain(5)}})
	weighty := []impl.Rule{plain(5, 4), weighed([]int{4}, 2, wl(3, 1), wl(1, 1)), plain(3, 1), plain(1)}
	checkCut(t, "settled by weights", impl.Prog{Atoms: 6, Rules: weighty}, impl.Prog{Atoms: 6, Rules: []impl.Rule{plain(5), weighty[1], plain(3), plain(1)}})
	circle := append(loop(1, 2), plain(3, -1), plain(2, 4))
	checkCut(t, "a circle goes", impl.Prog{Atoms: 6, Rules: circle}, impl.Prog{Atoms: 6, Rules: []impl.Rule{plain(3)}})
	checkCut(t, "none is left", impl.Prog{Atoms: 6, Rules: loop(1, 2)}, impl.Prog{Atoms: 6})
}

// TestCutLeavesTheRest: of all other fields it is what Fold makes of a program.
func TestCutLeavesTheRest(t *testing.T) {
	p := plainWhole()
	p.Atoms = 12
	p.Rules = append(p.Rules, plain(6, 5, -7, 10), constraint(-8, 1), plain(10, -11), plain(11, -10), plain(10, 8, -11, -12))
	want := deepCopy(p)
	// 5 and 8 are facts, as they are external; 2, 3 and 7 may not be; what is assumed comes at last: 9 may not be, 1 neither, though it must.
	want.Rules = []impl.Rule{p.Rules[1], constraint(), plain(6, 10), plain(10, -11), plain(11, -10), plain(10, -11), plain(5), plain(8), constraint()}
	want.Exts, want.Assume = nil, nil
	checkWell(t, "all kinds", p, "5 8", "5 6 8 10 11")
	checkCut(t, "all kinds", p, want)
	for _, c := range []struct {
		name   string
		rules  []impl.Rule
		exts   []impl.Ext
		assume []int
		want   []impl.Rule
	}{
		{"V 1", []impl.Rule{plain(2, 1), plain(3, -1)}, []impl.Ext{{Atom: 1, V: 1}}, nil, []impl.Rule{plain(2), plain(1)}},
		{"V 2", []impl.Rule{plain(2, 1), plain(3, -1)}, []impl.Ext{{Atom: 1, V: 2}}, nil, []impl.Rule{plain(3)}},
		{"V 0 of a head", []impl.Rule{plain(2, 1), plain(3, -1)}, []impl.Ext{{Atom: 2}}, nil, []impl.Rule{plain(3)}},
		{"assumed, and it must be", []impl.Rule{plain(1)}, nil, []int{1}, []impl.Rule{plain(1)}},
		{"assumed, and it may not be", []impl.Rule{plain(1)}, nil, []int{2}, []impl.Rule{plain(1), constraint()}},
		{"assumed below 0, and it must be", []impl.Rule{plain(1)}, nil, []int{-1}, []impl.Rule{plain(1), constraint()}},
		{"assumed below 0, and it may not be", []impl.Rule{plain(1)}, nil, []int{-2}, []impl.Rule{plain(1)}},
		{"assumed, and it is open", either(1, 2), nil, []int{1, -2, 1}, append(either(1, 2), constraint(-1), constraint(2), constraint(-1))},
		{"external and assumed", nil, []impl.Ext{{Atom: 1, V: 1}, {Atom: 2, V: 2}}, []int{2, 1, -2, -1}, []impl.Rule{plain(1), constraint(), constraint()}},
	} {
		p := impl.Prog{Atoms: 3, Rules: c.rules, Exts: c.exts, Assume: c.assume}
		checkCut(t, c.name, p, impl.Prog{Atoms: 3, Rules: c.want})
	}
}

// plainWhole is wholeProg without Choice.
func plainWhole() impl.Prog {
	return withoutChoice(wholeProg())
}

// TestWellFoundedOfNoProgram: each would be Plain, but for one change.
func TestWellFoundedOfNoProgram(t *testing.T) {
	whole := plainWhole()
	checkWell(t, "without a change", whole, "5 8", "5 8")
	for name, change := range noProgs() {
		p := deepCopy(whole)
		change(&p)
		if len(p.Rules) > 1 && len(p.Rules[1].Heads) == 0 {
			// Without its head it would be a constraint.
			p.Rules[1].Choice = true
		}
		checkNotPlain(t, name, p)
	}
	choosing := deepCopy(whole)
	choosing.Rules[1].Choice = true
	checkNotPlain(t, "a choice", choosing)
	for _, p := range append(odd(), atLimits(), impl.Prog{Atoms: -1}, impl.Prog{Atoms: 13}, impl.Prog{Atoms: math.MinInt}, impl.Prog{Atoms: math.MaxInt}) {
		if len(p.Rules) > 0 || !impl.ProgOk(p) {
			checkNotPlain(t, "an odd program", p)
		}
	}
}

// TestWellFoundedAndRoom: with just MaxRules rules of Fold there is something, with one more there is nothing.
func TestWellFoundedAndRoom(t *testing.T) {
	for _, c := range []struct {
		name   string
		rules  int
		exts   []impl.Ext
		assume []int
		well   string
		more   []impl.Rule
		folded bool
	}{
		{"MaxRules rules", 60, nil, nil, "12", nil, true},
		{"MaxRules rules with V 1", 59, []impl.Ext{{Atom: 1, V: 1}}, nil, "1 12", []impl.Rule{plain(1)}, true},
		{"one more with V 1", 60, []impl.Ext{{Atom: 1, V: 1}}, nil, "", nil, false},
		{"one more with V 0", 60, []impl.Ext{{Atom: 1}}, nil, "", nil, false},
		{"V 2 is no rule", 60, []impl.Ext{{Atom: 1, V: 2}}, nil, "12", nil, true},
		{"an external head is no rule", 60, []impl.Ext{{Atom: 12}}, nil, "12", nil, true},
		{"MaxRules rules with what is assumed", 58, nil, []int{-12, 12}, "12", []impl.Rule{constraint()}, true},
		{"one more with what is assumed", 59, nil, []int{-12, 12}, "", nil, false},
		{"MaxRules rules with both", 57, []impl.Ext{{Atom: 1, V: 1}}, []int{2, 1}, "1 12", []impl.Rule{plain(1), constraint()}, true},
		{"one more with both", 58, []impl.Ext{{Atom: 1, V: 1}}, []int{2, 1}, "", nil, false},
	} {
		p := impl.Prog{Atoms: 12, Rules: times(c.rules, plain(12, -11)), Exts: c.exts, Assume: c.assume}
		if !c.folded {
			checkNotPlain(t, c.name, p)
			continue
		}
		checkWell(t, c.name, p, c.well, c.well)
		checkCut(t, c.name, p, impl.Prog{Atoms: 12, Rules: append(times(c.rules, plain(12)), c.more...)})
	}
}

// somePlain is a program of n atoms that is Plain, with some of each kind, but with more literals below 0 than others have, and less that is assumed.
func somePlain(from *rand.Rand, n int) impl.Prog {
	p := someWhole(from, n)
	if from.Intn(3) > 0 {
		p.Assume = nil
	}
	if from.Intn(3) > 0 {
		p.Exts = nil
	}
	for i, r := range p.Rules {
		if len(r.Heads) == 0 && from.Intn(3) > 0 {
			p.Rules[i].Heads = []int{1 + from.Intn(n)}
		}
	}
	for range from.Intn(2 * n) {
		r := plain(1+from.Intn(n), -(1 + from.Intn(n)))
		if from.Intn(3) == 0 {
			r.Body = append(r.Body, body(someLiterals(from, n)...)...)
		}
		p.Rules = slices.Insert(p.Rules, from.Intn(len(p.Rules)+1), r)
	}
	return withoutChoice(p)
}

// wellBy tells the two sets without beginning anywhere: t is what all sets have that have what is made of what is made of them, f is what some set has of which each atom is made so.
func wellBy(rules []impl.Rule, n int) (must, may int) {
	must = 1<<n - 1
	for num := range 1 << n {
		again := impl.SetNum(leastOf(rules, leastOf(rules, impl.SetOf(num))))
		if again&^num == 0 {
			must &= num
		}
		if num&^again == 0 {
			may |= num
		}
	}
	return must, may
}

// leftOf is what is left of rules by two sets, by the definition.
func leftOf(rules []impl.Rule, must, may []int) []impl.Rule {
	var left []impl.Rule
	for _, r := range rules {
		var open []impl.WLit
		goes := false
		for _, w := range r.Body {
			a := sized(w.L)
			isTrue, isFalse := slices.Contains(must, a), !slices.Contains(may, a)
			goes = goes || w.L > 0 && isFalse || w.L < 0 && isTrue
			if w.L > 0 && !isTrue || w.L < 0 && !isFalse {
				open = append(open, w)
			}
		}
		if r.Weight {
			left = append(left, r)
		} else if !goes {
			left = append(left, impl.Rule{Heads: r.Heads, Body: open})
		}
	}
	return left
}

// grows tells how many times t changes.
func grows(rules []impl.Rule) int {
	var t []int
	for n := 0; ; n++ {
		next := leastOf(rules, leastOf(rules, t))
		if slices.Equal(next, t) {
			return n
		}
		t = next
	}
}

// TestWellFoundedOfMany: of many programs the two sets, and what is left, as the definitions tell.
func TestWellFoundedOfMany(t *testing.T) {
	from := rand.New(rand.NewSource(25))
	settled, open, often, changed := 0, 0, 0, 0
	for range 1500 {
		p := somePlain(from, 1+from.Intn(6))
		folded, ok := impl.Fold(p)
		if !ok {
			t.Fatalf("%+v is not folded", p)
		}
		must, may := wellBy(folded.Rules, p.Atoms)
		checkWell(t, "one of many", p, textOf(impl.SetOf(must)), textOf(impl.SetOf(may)))
		left := deepCopy(folded)
		left.Rules = leftOf(folded.Rules, impl.SetOf(must), impl.SetOf(may))
		checkCut(t, "one of many", p, left)
		if !alike(left, folded) {
			changed++
		}
		if must == may {
			settled++
		} else if must != 0 {
			open++
		}
		if grows(folded.Rules) > 1 {
			often++
		}
	}
	if settled < 300 || open < 200 || often < 50 || changed < 300 {
		t.Errorf("the programs are too much alike: %d settled, %d open, %d in which t grows more than once, %d cut", settled, open, often, changed)
	}
}

// TestWellFoundedIsInAnswers: t is in each answer, each answer is in f; cut a program has the same answers; where it is settled there is no answer but t.
func TestWellFoundedIsInAnswers(t *testing.T) {
	from := rand.New(rand.NewSource(26))
	found, told, alone := 0, 0, 0
	for range 5000 {
		p := somePlain(from, 1+from.Intn(6))
		must, may, ok := impl.WellFounded(p)
		if !ok {
			t.Fatalf("WellFounded(%+v) is false", p)
		}
		want := answersOfWhole(p)
		for _, num := range want {
			x := impl.SetOf(num)
			if !impl.SetIn(must, x) || !impl.SetIn(x, may) {
				t.Fatalf("WellFounded(%+v) = %v, %v, and %v is an answer", p, must, may, x)
			}
			if impl.Settled(p) {
				alone++
			} else if len(must) > 0 {
				told++
			}
		}
		if impl.Settled(p) && len(want) > 1 {
			t.Fatalf("%+v is settled, and has %d answers", p, len(want))
		}
		cut, ok := impl.Cut(p)
		if !ok || !slices.Equal(answersOf(cut.Rules, cut.Atoms), want) || !slices.Equal(numsOf(impl.Answers(cut)), want) {
			t.Fatalf("Cut(%+v) = %+v, %v, which has the answers %v, not %v", p, cut, ok, answersOf(cut.Rules, cut.Atoms), want)
		}
		found += len(want)
	}
	if found < 500 || told < 100 || alone < 100 {
		t.Errorf("the programs are too much alike: %d answers, %d of open ones with something that must be, %d of settled ones", found, told, alone)
	}
}

// founded are programs, and what is none, for calls that must leave them as they are.
func founded() []impl.Prog {
	open := append(either(3, 4), plain(1), plain(5, 1, -2, 3, -4), weighed([]int{2}, 4, wl(1, 1), wl(3, 2), wl(-1, 3)), constraint(1, -2))
	return append(answerable(),
		plainWhole(),
		impl.Prog{Atoms: 6, Rules: open, Exts: []impl.Ext{{Atom: 2, V: 1}, {Atom: 6, V: 1}}, Assume: []int{1, -2, 3}},
		impl.Prog{Atoms: 3, Rules: []impl.Rule{plain(1, 2, -3), plain(2, -3), plain(2), constraint(3)}},
	)
}

func TestWellFoundedArgumentsAreKept(t *testing.T) {
	for _, made := range founded() {
		keeping(t, "Plain", withSpare(made), func(p impl.Prog) { impl.Plain(p) })
		keeping(t, "WellFounded", withSpare(made), func(p impl.Prog) { impl.WellFounded(p) })
		keeping(t, "Settled", withSpare(made), func(p impl.Prog) { impl.Settled(p) })
		keeping(t, "Cut", withSpare(made), func(p impl.Prog) { impl.Cut(p) })
	}
	from := rand.New(rand.NewSource(27))
	for range 300 {
		keeping(t, "Cut", withSpare(somePlain(from, 5)), func(p impl.Prog) { impl.Cut(p) })
	}
}

func TestWellFoundedSpareIsNotRead(t *testing.T) {
	for _, made := range founded() {
		p := withSpare(made)
		must, may, ok := impl.WellFounded(made)
		one, two, again := impl.WellFounded(p)
		if ok != again || !alike(one, must) || !alike(two, may) || impl.Plain(p) != impl.Plain(made) || impl.Settled(p) != impl.Settled(made) {
			t.Errorf("the room behind the lists of %+v is read", made)
		}
		cut, ok := impl.Cut(made)
		if left, again := impl.Cut(p); ok != again || !alike(left, cut) {
			t.Errorf("the room behind the lists of %+v is read", made)
		}
	}
}

func TestWellFoundedAnswersAreNew(t *testing.T) {
	for _, made := range founded() {
		p := withSpare(made)
		must, may, _ := impl.WellFounded(p)
		one, two, _ := impl.WellFounded(p)
		checkApart(t, "WellFounded", p, must, may, one, two)
		handsOutNothing(t, "WellFounded", reflect.ValueOf(must))
		handsOutNothing(t, "WellFounded", reflect.ValueOf(may))
		cut, _ := impl.Cut(p)
		again, _ := impl.Cut(p)
		checkApart(t, "Cut", p, cut, again)
		handsOutNothing(t, "Cut", reflect.ValueOf(cut))
	}
	facts := impl.Prog{Atoms: 3, Rules: []impl.Rule{plain(1), plain(3, 1)}}
	must, may, _ := impl.WellFounded(facts)
	overwrite(must, -1)
	overwrite(may, -2)
	cut, _ := impl.Cut(facts)
	overwrite(cut.Rules[1].Heads, -1)
	checkWell(t, "where one is written into", facts, "1 3", "1 3")
	checkCut(t, "where one is written into", facts, impl.Prog{Atoms: 3, Rules: []impl.Rule{plain(1), plain(3)}})
}
