package tests

import (
	"math"
	"math/rand"
	"reflect"
	"slices"
	"testing"

	"loop.example/g00554/impl"
)

// oddSets are lists that are no sets of atoms up to 4.
var oddSets = [][]int{
	{5}, {1, 5}, {12}, {1, 2, 3, 4, 5}, {13}, {1, 13}, {0}, {0, 1}, {-1}, {-1, 1}, {1, 0}, {1, -2}, {2, 1}, {4, 3, 2, 1}, {1, 3, 2},
	{1, 1}, {4, 4}, {1, 2, 2}, {1, 1, 2}, {1<<32 + 1}, {1, 1<<32 + 2}, {math.MinInt, 1}, {1, math.MaxInt}, {math.MinInt}, {math.MaxInt}, {65}, {257},
}

func checkClosure(t *testing.T, name string, p impl.Prog, u []int, want string) {
	t.Helper()
	if got := textOf(impl.Closure(p, u)); got != want {
		t.Errorf("%s: Closure(%+v, %v) = %q, not %q", name, p, u, got, want)
	}
}

func checkIsSplit(t *testing.T, name string, p impl.Prog, u []int) {
	t.Helper()
	if !impl.IsSplit(p, u) {
		t.Errorf("%s: IsSplit(%+v, %v) is false", name, p, u)
	}
}

// checkNoSplit fails where something is told of p and u, which is not split.
func checkNoSplit(t *testing.T, name string, p impl.Prog, u []int) {
	t.Helper()
	if impl.IsSplit(p, u) {
		t.Errorf("%s: IsSplit(%+v, %v) is true", name, p, u)
	}
	if got := impl.Bottom(p, u); !alike(got, impl.Prog{}) {
		t.Errorf("%s: Bottom(%+v, %v) = %+v", name, p, u, got)
	}
	for _, x := range [][]int{nil, u, {1}, {1, 2, 3, 4}} {
		if got := impl.Top(p, u, x); !alike(got, impl.Prog{}) {
			t.Errorf("%s: Top(%+v, %v, %v) = %+v", name, p, u, x, got)
		}
	}
	if list, ok := impl.SplitAnswers(p, u); ok || len(list) != 0 {
		t.Errorf("%s: SplitAnswers(%+v, %v) = %q, %v", name, p, u, textsOf(list), ok)
	}
}

// checkBottom fails where there are other rules, or anything but Atoms and rules.
func checkBottom(t *testing.T, name string, p impl.Prog, u []int, rules ...impl.Rule) {
	t.Helper()
	if got, want := impl.Bottom(p, u), rulesOf(p.Atoms, rules...); !alike(got, want) {
		t.Errorf("%s: Bottom(%+v, %v) = %+v, not %+v", name, p, u, got, want)
	}
}

// checkTop fails where there are other rules, or anything but Atoms and rules.
func checkTop(t *testing.T, name string, p impl.Prog, u, x []int, rules ...impl.Rule) {
	t.Helper()
	if got, want := impl.Top(p, u, x), rulesOf(p.Atoms, rules...); !alike(got, want) {
		t.Errorf("%s: Top(%+v, %v, %v) = %+v, not %+v", name, p, u, x, got, want)
	}
}

// checkSplitAnswers fails where other sets are told, or where the answers of p are other ones.
func checkSplitAnswers(t *testing.T, name string, p impl.Prog, u []int, want ...string) {
	t.Helper()
	list, ok := impl.SplitAnswers(p, u)
	if got := textsOf(list); !ok || !slices.Equal(got, want) {
		t.Errorf("%s: SplitAnswers(%+v, %v) = %q, %v, not %q", name, p, u, got, ok, want)
	}
	if got := textsOf(impl.Answers(p)); !slices.Equal(got, want) {
		t.Errorf("%s: Answers(%+v) = %q, not %q", name, p, got, want)
	}
}

type splitCase struct {
	name  string
	rules []impl.Rule
	u     []int
	want  bool
}

// checkAreSplit asks of programs of four atoms.
func checkAreSplit(t *testing.T, cases []splitCase) {
	t.Helper()
	for _, c := range cases {
		p := impl.Prog{Atoms: 4, Rules: c.rules}
		if !c.want {
			checkNoSplit(t, c.name, p, c.u)
			continue
		}
		checkIsSplit(t, c.name, p, c.u)
		if got := impl.Bottom(p, c.u); got.Atoms != 4 {
			t.Errorf("%s: Bottom has %d Atoms", c.name, got.Atoms)
		}
		checkSplitAnswers(t, c.name, p, c.u, textsOf(impl.Answers(p))...)
	}
}

func TestIsSplitByRules(t *testing.T) {
	chain := []impl.Rule{plain(1, 2), plain(2, 3), plain(3)}
	checkAreSplit(t, []splitCase{
		{"no rules, the empty set", nil, nil, true},
		{"no rules, an empty list", nil, []int{}, true},
		{"no rules, one atom", nil, []int{3}, true},
		{"no rules, all atoms", nil, []int{1, 2, 3, 4}, true},
		{"the empty set", chain, nil, true},
		{"all atoms", chain, []int{1, 2, 3, 4}, true},
		{"all that is mentioned", chain, []int{1, 2, 3}, true},
		{"what needs nothing", chain, []int{3}, true},
		{"what needs that", chain, []int{2, 3}, true},
		{"what is not mentioned", chain, []int{4}, true},
		{"what needs something", chain, []int{1}, false},
		{"what needs what needs something", chain, []int{1, 2}, false},
		{"without what is between", chain, []int{1, 3}, false},
		{"an atom that is no head", []impl.Rule{plain(1, 2), plain(1, 3)}, []int{2, 3}, true},
		{"one rule of two of one head", []impl.Rule{plain(1, 2), plain(1, 3)}, []int{1, 2}, false},
		{"both rules of one head", []impl.Rule{plain(1, 2), plain(1, 3)}, []int{1, 2, 3}, true},
		{"the last rule alone is not whole", []impl.Rule{plain(1), plain(2, 1), plain(1, 3)}, []int{1, 2}, false},
		{"the first rule alone is not whole", []impl.Rule{plain(1, 3), plain(1), plain(2, 1)}, []int{1, 2}, false},
		{"below 0, in u", []impl.Rule{plain(1, -2)}, []int{1, 2}, true},
		{"below 0, not in u", []impl.Rule{plain(1, -2)}, []int{1}, false},
		{"below 0, of the last literal", []impl.Rule{plain(1, 2, -3, -4)}, []int{1, 2, 3}, false},
		{"below 0 alone in u", []impl.Rule{plain(1, -2)}, []int{2}, true},
		{"one above 0 in u, one below 0 not", []impl.Rule{plain(1, 2, -3)}, []int{1, 2}, false},
		{"one above 0 not in u, one below 0 in it", []impl.Rule{plain(1, 2, -3)}, []int{1, 3}, false},
		{"its own head in the body", []impl.Rule{plain(1, 1), plain(2, -2)}, []int{1}, true},
		{"its own head below 0 in the body", []impl.Rule{plain(1, 1), plain(2, -2)}, []int{2}, true},
		{"a circle", loop(1, 2), []int{1}, false},
		{"a circle as a whole", loop(1, 2), []int{1, 2}, true},
		{"an even circle", either(1, 2), []int{2}, false},
		{"an even circle as a whole", either(1, 2), []int{1, 2}, true},
		{"a fact", []impl.Rule{plain(1)}, []int{1}, true},
	})
}

func TestIsSplitByChoice(t *testing.T) {
	some, needs, refuses := []impl.Rule{choice([]int{1, 2})}, []impl.Rule{choice([]int{1, 2}, 3)}, []impl.Rule{choice([]int{1, 2}, -3)}
	checkAreSplit(t, []splitCase{
		{"both heads", some, []int{1, 2}, true},
		{"the first head", some, []int{1}, false},
		{"the second head", some, []int{2}, false},
		{"the first head and another atom", some, []int{1, 3, 4}, false},
		{"no head", some, []int{3, 4}, true},
		{"one head alone", []impl.Rule{choice([]int{3})}, []int{3}, true},
		{"all heads but one", []impl.Rule{choice([]int{1, 2, 3, 4})}, []int{1, 2, 4}, false},
		{"one head, and the body not in u", needs, []int{1}, false},
		{"the other head, and the body not in u", needs, []int{2}, false},
		{"one head, and the body in u", needs, []int{1, 3}, false},
		{"both heads, and the body not in u", needs, []int{1, 2}, false},
		{"both heads, and the body in u", needs, []int{1, 2, 3}, true},
		{"no head, and the body in u", needs, []int{3}, true},
		{"both heads, and what is below 0 not in u", refuses, []int{1, 2}, false},
		{"both heads, and what is below 0 in u", refuses, []int{1, 2, 3}, true},
		{"one head, and what is below 0 in u", refuses, []int{2, 3}, false},
		{"a head in the body", []impl.Rule{choice([]int{1, 2}, 2)}, []int{1}, false},
		{"a head in the body, in u", []impl.Rule{choice([]int{1, 2}, 2)}, []int{2}, false},
	})
}

func TestIsSplitByOtherRules(t *testing.T) {
	checkAreSplit(t, []splitCase{
		{"without Heads, half of it in u", []impl.Rule{constraint(1, 2)}, []int{1}, true},
		{"without Heads, below 0, half of it in u", []impl.Rule{constraint(-1, -2)}, []int{2}, true},
		{"without Heads, nothing in u", []impl.Rule{constraint(1, -2)}, []int{3}, true},
		{"without Heads, all in u", []impl.Rule{constraint(1, -2)}, []int{1, 2}, true},
		{"without Heads, the empty set", []impl.Rule{constraint(1, -2)}, nil, true},
		{"of no atom", []impl.Rule{constraint()}, nil, true},
		{"of no atom, one in u", []impl.Rule{constraint()}, []int{1}, true},
		{"with Weight and without Heads", []impl.Rule{weighed(nil, 2, wl(1, 1), wl(-2, 1))}, []int{1}, true},
		{"with Weight, the body not in u", []impl.Rule{weighed([]int{1}, 2, wl(2, 1), wl(-3, 1))}, []int{1, 2}, false},
		{"with Weight, one below 0 in u alone", []impl.Rule{weighed([]int{1}, 2, wl(2, 1), wl(-3, 1))}, []int{1, 3}, false},
		{"with Weight, all in u", []impl.Rule{weighed([]int{1}, 2, wl(2, 1), wl(-3, 1))}, []int{1, 2, 3}, true},
		{"with Weight, the head not in u", []impl.Rule{weighed([]int{1}, 2, wl(2, 1), wl(-3, 1))}, []int{2}, true},
		{"with Bound 0 it has its atoms all the same", []impl.Rule{weighed([]int{1}, 0, wl(2, 1))}, []int{1}, false},
		{"with a Bound that is never reached, too", []impl.Rule{weighed([]int{1}, 9, wl(2, 1))}, []int{1}, false},
		{"with a body that never holds, too", []impl.Rule{plain(1, 2, -2)}, []int{1}, false},
		{"with Weight and Choice, one head", []impl.Rule{weighedChoice([]int{1, 2}, 1, wl(3, 1))}, []int{2, 3}, false},
		{"with Weight and Choice, all", []impl.Rule{weighedChoice([]int{1, 2}, 1, wl(3, 1))}, []int{1, 2, 3}, true},
		{"with Weight and Choice, the body", []impl.Rule{weighedChoice([]int{1, 2}, 1, wl(3, 1))}, []int{3}, true},
	})
}

// TestIsSplitWantsSets: where each set of atoms up to Atoms splits the program, a list that is none does not.
func TestIsSplitWantsSets(t *testing.T) {
	p := impl.Prog{Atoms: 4, Rules: []impl.Rule{plain(1), choice([]int{2}), constraint(3, 4)}}
	for num := range 16 {
		checkIsSplit(t, "a set", p, impl.SetOf(num))
	}
	for _, u := range oddSets {
		checkNoSplit(t, "no set", p, u)
	}
	for n := range 13 {
		none := impl.Prog{Atoms: n}
		for _, u := range lists {
			if !impl.SetOk(u, n) {
				checkNoSplit(t, "no set up to Atoms", none, u)
				continue
			}
			checkIsSplit(t, "a set up to Atoms", none, u)
			checkSplitAnswers(t, "without rules", none, u, "")
			checkBottom(t, "without rules", none, u)
			checkTop(t, "without rules", none, u, u)
		}
		checkIsSplit(t, "all atoms", none, impl.SetOf(1<<n-1))
		checkNoSplit(t, "one more", none, append(impl.SetOf(1<<n-1), n+1))
	}
}

// TestSplitOfNoAtoms: with 0 Atoms only the empty set splits, and there are rules of no atom all the same.
func TestSplitOfNoAtoms(t *testing.T) {
	for _, c := range []struct {
		name  string
		rules []impl.Rule
		want  []string
	}{
		{"no rules", nil, []string{""}},
		{"no rules, an empty list", []impl.Rule{}, []string{""}},
		{"one that is never kept", []impl.Rule{constraint()}, nil},
		{"one with Weight that is never kept", []impl.Rule{weighed(nil, 0)}, nil},
		{"one with Weight that is always kept", []impl.Rule{weighed(nil, 1)}, []string{""}},
		{"two of them", []impl.Rule{weighed(nil, 1), constraint()}, nil},
	} {
		p := impl.Prog{Rules: c.rules}
		checkBottom(t, c.name, p, nil, c.rules...)
		checkTop(t, c.name, p, nil, nil)
		checkTop(t, c.name, p, []int{}, []int{1})
		checkSplitAnswers(t, c.name, p, nil, c.want...)
		checkSplitAnswers(t, c.name, p, []int{}, c.want...)
		checkNoSplit(t, c.name, p, []int{1})
		checkClosure(t, c.name, p, nil, "")
		checkClosure(t, c.name, p, []int{1, 2}, "")
	}
}

// TestSplitOfExtsAndAssume: what Fold adds counts as other rules do.
func TestSplitOfExtsAndAssume(t *testing.T) {
	p := impl.Prog{Atoms: 5, Rules: []impl.Rule{plain(3, 1), plain(4, -2)}, Exts: []impl.Ext{{Atom: 1}, {Atom: 2, V: 1}, {Atom: 3, V: 1}, {Atom: 5, V: 2}}, Assume: []int{3, -4}}
	free, fact := choice([]int{1}), plain(2)
	wants, no := constraint(-3), constraint(4)
	for _, c := range []struct {
		u      []int
		x      []int
		bottom []impl.Rule
		top    []impl.Rule
	}{
		{nil, nil, nil, []impl.Rule{plain(3, 1), plain(4, -2), free, fact, wants, no}},
		{[]int{1}, nil, []impl.Rule{free}, []impl.Rule{plain(4, -2), fact, wants, no}},
		{[]int{1}, []int{1}, []impl.Rule{free}, []impl.Rule{plain(3), plain(4, -2), fact, wants, no}},
		{[]int{2}, []int{2}, []impl.Rule{fact}, []impl.Rule{plain(3, 1), free, wants, no}},
		{[]int{2}, nil, []impl.Rule{fact}, []impl.Rule{plain(3, 1), plain(4), free, wants, no}},
		{[]int{5}, nil, nil, []impl.Rule{plain(3, 1), plain(4, -2), free, fact, wants, no}},
		{[]int{1, 3}, []int{1, 3}, []impl.Rule{plain(3, 1), free, wants}, []impl.Rule{plain(4, -2), fact, no}},
		{[]int{2, 4}, []int{2}, []impl.Rule{plain(4, -2), fact, no}, []impl.Rule{plain(3, 1), free, wants}},
		{[]int{1, 2, 3, 4}, []int{1, 2, 3}, []impl.Rule{plain(3, 1), plain(4, -2), free, fact, wants, no}, nil},
	} {
		checkIsSplit(t, "external and assumed", p, c.u)
		checkBottom(t, "external and assumed", p, c.u, c.bottom...)
		checkTop(t, "external and assumed", p, c.u, c.x, c.top...)
		checkSplitAnswers(t, "external and assumed", p, c.u, "1 2 3")
	}
	// With V 1 atom 3, which is a head, is as without.
	checkNoSplit(t, "an external head", p, []int{3})
	checkNoSplit(t, "an external head and another atom", p, []int{2, 3})
	checkNoSplit(t, "one head of two", p, []int{1, 4})
	for num := range 32 {
		only := impl.Prog{Atoms: 5, Exts: p.Exts, Assume: []int{1, -4}}
		checkIsSplit(t, "external and assumed alone", only, impl.SetOf(num))
		checkSplitAnswers(t, "external and assumed alone", only, impl.SetOf(num), "1 2 3")
	}
}

func TestBottom(t *testing.T) {
	below := []impl.Rule{
		plain(1, 2, -3), constraint(), choice([]int{1, 2}, 3), weighed([]int{3}, 2, wl(1, 1), wl(-2, 2), wl(1, 1)), constraint(-1, 1, 1),
		weighed(nil, -7), weighedChoice([]int{2}, 0, wl(3, 4)), weighed(nil, 5, wl(1, 2)), plain(2),
	}
	above := []impl.Rule{
		plain(4), plain(5, 1), choice([]int{4, 5}, 1, -2), weighed([]int{4}, 2, wl(1, 1), wl(-5, 2)), constraint(4), constraint(1, -5),
		weighed(nil, 0, wl(4, 1)), plain(6, 6), constraint(-1, 6),
	}
	u := []int{1, 2, 3}
	checkBottom(t, "all below", rulesOf(6, below...), u, below...)
	checkBottom(t, "all above", rulesOf(6, above...), u)
	checkBottom(t, "those below first", rulesOf(6, slices.Concat(below, above)...), u, below...)
	checkBottom(t, "those above first", rulesOf(6, slices.Concat(above, below)...), u, below...)
	var mixed []impl.Rule
	for i := range below {
		mixed = append(mixed, above[i], below[i])
	}
	checkBottom(t, "in turns", rulesOf(6, mixed...), u, below...)
	checkBottom(t, "the empty set", rulesOf(6, mixed...), nil, below[1], below[5])
	checkBottom(t, "all atoms", rulesOf(6, mixed...), []int{1, 2, 3, 4, 5, 6}, mixed...)
	checkBottom(t, "one more below", rulesOf(6, mixed...), []int{1, 2, 3, 6}, slices.Concat(below[:7], []impl.Rule{above[7], below[7], above[8], below[8]})...)
	checkBottom(t, "one rule three times", rulesOf(2, times(3, plain(1))...), []int{1}, times(3, plain(1))...)
}

// TestBottomHasRulesAlone: all other fields are empty, in Top, too.
func TestBottomHasRulesAlone(t *testing.T) {
	p := wholeProg()
	u := []int{1, 2, 3, 4}
	checkIsSplit(t, "a whole program", p, u)
	checkBottom(t, "a whole program", p, u, plain(2, 3, -4), weighedChoice([]int{2, 3}, 2, wl(1, 2), wl(-4, 1)), constraint(-1))
	checkTop(t, "a whole program", p, u, nil, constraint(5), plain(5), choice([]int{8}), constraint(9))
	p.Atoms = 12
	checkBottom(t, "of more Atoms", p, u, plain(2, 3, -4), weighedChoice([]int{2, 3}, 2, wl(1, 2), wl(-4, 1)), constraint(-1))
	checkTop(t, "of more Atoms", p, u, u, constraint(5), plain(5), choice([]int{8}), constraint(9))
}

// TestTopLeavesOutWhatIsBelow: a rule is not among those above just where all its atoms are below.
func TestTopLeavesOutWhatIsBelow(t *testing.T) {
	u := []int{1, 2}
	for _, r := range []impl.Rule{
		constraint(), constraint(1), constraint(-2), constraint(1, -1), plain(1), plain(2, 1), plain(2, -2), choice([]int{1, 2}), choice([]int{2}, -1, 2),
		weighed(nil, 0), weighed(nil, -3), weighed(nil, 3), weighed(nil, 2, wl(1, 1), wl(-2, 1)), weighed([]int{1}, 0), weighedChoice([]int{1, 2}, 4, wl(1, 9)),
	} {
		for num := range 4 {
			checkTop(t, "a rule below", rulesOf(4, r), u, impl.SetOf(num))
			checkTop(t, "a rule below another one", rulesOf(4, plain(3, -4), r, plain(4, r.Heads...)), u, []int{1, 2}, plain(3, -4), plain(4))
		}
		checkBottom(t, "a rule below", rulesOf(4, r), u, r)
	}
	for _, r := range []impl.Rule{
		constraint(3), constraint(-3), constraint(3, -3), plain(3), plain(4, 3), plain(3, -3), choice([]int{3, 4}), choice([]int{4}, -3, 3),
		weighed(nil, 3, wl(3, 1), wl(-4, 1)), weighed([]int{3}, 1), weighedChoice([]int{3, 4}, 4, wl(3, 9)), plain(3, 4, 4, -3, 4),
	} {
		for num := range 16 {
			checkTop(t, "a rule above", rulesOf(4, r), u, impl.SetOf(num), r)
		}
		checkBottom(t, "a rule above", rulesOf(4, r), u)
	}
}

type topCase struct {
	name string
	r    impl.Rule
	x    []int
	want []impl.Rule
}

// checkTops asks of one rule, of six atoms of which the first three are below, and of it between other ones.
func checkTops(t *testing.T, cases []topCase) {
	t.Helper()
	u := []int{1, 2, 3}
	for _, c := range cases {
		checkTop(t, c.name, rulesOf(6, c.r), u, c.x, c.want...)
		checkTop(t, c.name, rulesOf(6, plain(5), plain(1), c.r, plain(6, 5)), u, c.x, slices.Concat([]impl.Rule{plain(5)}, c.want, []impl.Rule{plain(6, 5)})...)
	}
}

func TestTopWithoutWeight(t *testing.T) {
	none := []impl.Rule(nil)
	is := func(r impl.Rule) []impl.Rule { return []impl.Rule{r} }
	checkTops(t, []topCase{
		{"above 0, in x", plain(4, 1), []int{1}, is(plain(4))},
		{"above 0, not in x", plain(4, 1), nil, none},
		{"above 0, others in x", plain(4, 1), []int{2, 3}, none},
		{"below 0, in x", plain(4, -1), []int{1}, none},
		{"below 0, not in x", plain(4, -1), nil, is(plain(4))},
		{"below 0, others in x", plain(4, -1), []int{2, 3}, is(plain(4))},
		{"two above 0, both in x", plain(4, 1, 2), []int{1, 2}, is(plain(4))},
		{"two above 0, the first in x", plain(4, 1, 2), []int{1}, none},
		{"two above 0, the second in x", plain(4, 1, 2), []int{2}, none},
		{"two below 0, none in x", plain(4, -1, -2), []int{3}, is(plain(4))},
		{"two below 0, the first in x", plain(4, -1, -2), []int{1}, none},
		{"two below 0, the second in x", plain(4, -1, -2), []int{2}, none},
		{"one of each, both hold", plain(4, 1, -2), []int{1, 3}, is(plain(4))},
		{"one of each, the first holds", plain(4, 1, -2), []int{1, 2}, none},
		{"one of each, the second holds", plain(4, 1, -2), nil, none},
		{"one of each, none holds", plain(4, 1, -2), []int{2}, none},
		{"an atom's two literals, in x", plain(4, 1, -1), []int{1}, none},
		{"an atom's two literals, not in x", plain(4, 1, -1), nil, none},
		{"a literal twice, in x", plain(4, 2, 2), []int{2}, is(plain(4))},
		{"a literal twice, not in x", plain(4, 2, 2), []int{1}, none},
		{"others stay in their order", plain(4, 6, 1, -5, -2, 5, 6), []int{1}, is(plain(4, 6, -5, 5, 6))},
		{"others do not keep a rule", plain(4, 6, 1, -5, -2, 5, 6), []int{1, 2}, none},
		{"others ahead", plain(4, 5, 6, 1), []int{1}, is(plain(4, 5, 6))},
		{"others behind", plain(4, 3, 5, 6), []int{3}, is(plain(4, 5, 6))},
		{"others alone", plain(4, 5, -6), nil, is(plain(4, 5, -6))},
		{"other ones are not asked of x", plain(4, 5, -6, 1), []int{1, 6}, is(plain(4, 5, -6))},
		{"an atom's two literals above", plain(4, 5, -5, 1), []int{1}, is(plain(4, 5, -5))},
		{"its own head", plain(4, 4, 1), []int{1}, is(plain(4, 4))},
		{"no body", plain(4), nil, is(plain(4))},
		{"without Heads, it holds", constraint(1, -5), []int{1}, is(constraint(-5))},
		{"without Heads, it does not hold", constraint(1, -5), []int{2}, none},
		{"with Choice, it holds", choice([]int{4, 6}, 1, 5), []int{1}, is(choice([]int{4, 6}, 5))},
		{"with Choice, the body becomes empty", choice([]int{4, 6}, 1, -2), []int{1}, is(choice([]int{4, 6}))},
		{"with Choice, it does not hold", choice([]int{4, 6}, 1, 5), nil, none},
		{"with Choice of one", choice([]int{5}, -3), nil, is(choice([]int{5}))},
	})
}

func TestTopWithWeight(t *testing.T) {
	is := func(r impl.Rule) []impl.Rule { return []impl.Rule{r} }
	row := []impl.WLit{wl(1, 3), wl(5, 4), wl(-2, 5), wl(-6, 2)}
	open := []impl.WLit{wl(5, 4), wl(-6, 2)}
	checkTops(t, []topCase{
		{"none holds", weighed([]int{4}, 6, row...), []int{2}, is(weighed([]int{4}, 6, open...))},
		{"above 0 holds", weighed([]int{4}, 6, row...), []int{1, 2}, is(weighed([]int{4}, 3, open...))},
		{"below 0 holds", weighed([]int{4}, 6, row...), nil, is(weighed([]int{4}, 1, open...))},
		{"both hold, and pass Bound", weighed([]int{4}, 6, row...), []int{1}, is(plain(4))},
		{"both hold, and just reach Bound", weighed([]int{4}, 8, row...), []int{1}, is(plain(4))},
		{"both hold, and 1 is left", weighed([]int{4}, 9, row...), []int{1, 5}, is(weighed([]int{4}, 1, open...))},
		{"one just reaches Bound", weighed([]int{4}, 3, row...), []int{1, 2}, is(plain(4))},
		{"one reaches all but 1", weighed([]int{4}, 4, row...), []int{1, 2}, is(weighed([]int{4}, 1, open...))},
		{"one passes Bound by 1", weighed([]int{4}, 2, row...), []int{1, 2}, is(plain(4))},
		{"Bound 0, none holds", weighed([]int{4}, 0, row...), []int{2}, is(plain(4))},
		{"Bound 0, some hold", weighed([]int{4}, 0, row...), []int{1}, is(plain(4))},
		{"Bound below 0, none holds", weighed([]int{4}, -1, row...), []int{2}, is(plain(4))},
		{"the least Bound, all hold", weighed([]int{4}, -100000, times(20, wl(-1, 1000))...), nil, is(plain(4))},
		{"the greatest Bound, all hold", weighed([]int{4}, 100000, times(20, wl(-1, 1000))...), nil, is(weighed([]int{4}, 80000))},
		{"the greatest Bound, none holds", weighed([]int{4}, 100000, times(20, wl(-1, 1000))...), []int{1}, is(weighed([]int{4}, 100000))},
		{"no literal below, Bound 0", weighed([]int{4}, 0, open...), []int{1}, is(plain(4))},
		{"no literal below, Bound below 0", weighed([]int{4}, -5, open...), nil, is(plain(4))},
		{"no literal below, Bound 1", weighed([]int{4}, 1, open...), []int{1}, is(weighed([]int{4}, 1, open...))},
		{"no literal, Bound 0", weighed([]int{4}, 0), nil, is(plain(4))},
		{"no literal, Bound 1", weighed([]int{4}, 1), nil, is(weighed([]int{4}, 1))},
		{"literals below alone, not reached", weighed([]int{4}, 6, wl(1, 3), wl(-2, 2)), []int{1}, is(weighed([]int{4}, 1))},
		{"literals below alone, reached", weighed([]int{4}, 5, wl(1, 3), wl(-2, 2)), []int{1}, is(plain(4))},
		{"a literal twice, in x", weighed([]int{4}, 9, wl(1, 3), wl(5, 7), wl(1, 3)), []int{1}, is(weighed([]int{4}, 3, wl(5, 7)))},
		{"a literal twice, with other W", weighed([]int{4}, 9, wl(1, 3), wl(1, 4), wl(5, 7)), []int{1}, is(weighed([]int{4}, 2, wl(5, 7)))},
		{"a literal twice, just reached", weighed([]int{4}, 6, wl(1, 3), wl(5, 7), wl(1, 3)), []int{1}, is(plain(4))},
		{"a literal twice, not in x", weighed([]int{4}, 6, wl(1, 3), wl(5, 7), wl(1, 3)), nil, is(weighed([]int{4}, 6, wl(5, 7)))},
		{"below 0 twice", weighed([]int{4}, 6, wl(-1, 2), wl(-1, 3), wl(5, 7)), []int{2}, is(weighed([]int{4}, 1, wl(5, 7)))},
		{"an atom's two literals, in x", weighed([]int{4}, 6, wl(1, 2), wl(-1, 3), wl(5, 7)), []int{1}, is(weighed([]int{4}, 4, wl(5, 7)))},
		{"an atom's two literals, not in x", weighed([]int{4}, 6, wl(1, 2), wl(-1, 3), wl(5, 7)), nil, is(weighed([]int{4}, 3, wl(5, 7)))},
		{"others twice stay apart, in order", weighed([]int{4}, 6, wl(6, 2), wl(1, 1), wl(-5, 9), wl(6, 2), wl(6, 1)), []int{1}, is(weighed([]int{4}, 5, wl(6, 2), wl(-5, 9), wl(6, 2), wl(6, 1)))},
		{"W above Bound stays", weighed([]int{4}, 3, wl(5, 1000), wl(1, 2)), []int{1}, is(weighed([]int{4}, 1, wl(5, 1000)))},
		{"what can no longer be reached stays", weighed([]int{4}, 30, wl(5, 2), wl(1, 2)), nil, is(weighed([]int{4}, 30, wl(5, 2)))},
		{"what must all hold stays", weighed([]int{4}, 5, wl(5, 2), wl(6, 2), wl(1, 1)), []int{1}, is(weighed([]int{4}, 4, wl(5, 2), wl(6, 2)))},
		{"without Heads, above 0", weighed(nil, 6, row...), []int{1, 2}, is(weighed(nil, 3, open...))},
		{"without Heads, reached", weighed(nil, 6, row...), []int{1}, is(constraint())},
		{"with Choice, above 0", weighedChoice([]int{4, 5}, 6, row...), []int{1, 2}, is(weighedChoice([]int{4, 5}, 3, open...))},
		{"with Choice, reached", weighedChoice([]int{4, 5}, 6, row...), []int{1}, is(choice([]int{4, 5}))},
		{"with Choice, Bound 0", weighedChoice([]int{4}, 0, row...), []int{2}, is(choice([]int{4}))},
		{"other ones are not asked of x", weighed([]int{4}, 6, row...), []int{2, 5}, is(weighed([]int{4}, 6, open...))},
	})
}

// TestTopOfAnyList: of x counts what stands in it of the atoms below, whatever else does and in which order.
func TestTopOfAnyList(t *testing.T) {
	p := rulesOf(6,
		plain(4, 1), plain(4, -1), plain(5, 2), plain(5, -2), plain(6, 3), plain(6, -3),
		weighed([]int{4}, 9, wl(1, 1), wl(2, 2), wl(3, 4), wl(5, 1)), weighed([]int{5}, 9, wl(-1, 1), wl(-2, 2), wl(-3, 4), wl(6, 1)),
	)
	u := []int{1, 2, 3}
	tops := map[string]bool{}
	for num := range 8 {
		x := impl.SetOf(num)
		want := impl.Top(p, u, x)
		tops[impl.AspifText(want)] = true
		for _, more := range [][]int{{4}, {6}, {4, 5, 6}, {7}, {12}, {7, 8, 9, 10, 11, 12}, {13}, {0}, {-1}, {-2, -3}, {math.MinInt}, {math.MaxInt}, {1<<32 + 1}, {65, 66, 67}} {
			checkTop(t, "more behind", p, u, slices.Concat(x, more), want.Rules...)
			checkTop(t, "more ahead", p, u, slices.Concat(more, x), want.Rules...)
			checkTop(t, "more on both sides", p, u, slices.Concat(more, x, more, x), want.Rules...)
		}
		back := slices.Clone(x)
		slices.Reverse(back)
		checkTop(t, "falling", p, u, back, want.Rules...)
		checkTop(t, "each twice", p, u, slices.Concat(x, x), want.Rules...)
		checkTop(t, "each twice, falling", p, u, slices.Concat(back, back, x), want.Rules...)
	}
	if len(tops) != 8 {
		t.Errorf("of 8 sets there are %d programs above", len(tops))
	}
	checkTop(t, "an empty list", p, u, []int{}, impl.Top(p, u, nil).Rules...)
	for _, x := range lists {
		checkTop(t, "any list", p, u, x, impl.Top(p, u, impl.SetMeet(x, u)).Rules...)
	}
}

func TestSplitAnswers(t *testing.T) {
	all := []int{1, 2, 3, 4}
	for _, c := range []struct {
		name  string
		rules []impl.Rule
		u     []int
		want  []string
	}{
		{"no rules", nil, []int{2, 3}, []string{""}},
		{"no answer below", []impl.Rule{plain(1, -1), plain(3)}, []int{1, 2}, nil},
		{"no answer below, by a rule of no atom", []impl.Rule{constraint(), plain(3)}, []int{1, 2}, nil},
		{"no answer below, by a rule without Heads", []impl.Rule{choice([]int{1}), constraint(1), constraint(-1), choice([]int{3})}, []int{1}, nil},
		{"no answer above", []impl.Rule{choice([]int{1}), plain(3, -3)}, []int{1, 2}, nil},
		{"no answer above of what is below", []impl.Rule{choice([]int{1}), plain(3, -3, 1), constraint(-1, -4)}, []int{1, 2}, nil},
		{"an answer above of one of those below", []impl.Rule{choice([]int{1, 2}), plain(3, -3, 1), constraint(-2, -4)}, []int{1, 2}, []string{"2"}},
		{"an answer above of the last one below", []impl.Rule{choice([]int{1, 2}), constraint(-1, -4), constraint(-2, -4)}, []int{1, 2}, []string{"1 2"}},
		{"one of each", []impl.Rule{plain(1), plain(3, 1)}, []int{1, 2}, []string{"1 3"}},
		{"one below, two above", []impl.Rule{plain(2), plain(3, -4, 2), plain(4, -3, 2)}, []int{1, 2}, []string{"2 3", "2 4"}},
		{"two below, one above", []impl.Rule{plain(1, -2), plain(2, -1), plain(3, 1), plain(4, 2)}, []int{1, 2}, []string{"1 3", "2 4"}},
		{"two below, two above", slices.Concat(either(1, 2), either(3, 4)), []int{1, 2}, []string{"1 3", "2 3", "1 4", "2 4"}},
		{"two below, two above, u behind", slices.Concat(either(1, 2), either(3, 4)), []int{3, 4}, []string{"1 3", "2 3", "1 4", "2 4"}},
		{"two below, two above, one of each between", slices.Concat(either(1, 3), either(2, 4)), []int{1, 3}, []string{"1 2", "2 3", "1 4", "3 4"}},
		{"two below, two above, the other one", slices.Concat(either(1, 3), either(2, 4)), []int{2, 4}, []string{"1 2", "2 3", "1 4", "3 4"}},
		{"many above of one below alone", []impl.Rule{choice([]int{4}), choice([]int{1, 2}, 4)}, []int{4}, []string{"", "4", "1 4", "2 4", "1 2 4"}},
		{"many above of the other one below", []impl.Rule{choice([]int{4}), choice([]int{1, 2}, -4)}, []int{4}, []string{"", "1", "2", "1 2", "4"}},
		{"a greater atom below", []impl.Rule{choice([]int{3}), choice([]int{1})}, []int{3}, []string{"", "1", "3", "1 3"}},
		{"a lesser atom below", []impl.Rule{choice([]int{3}), choice([]int{1})}, []int{1}, []string{"", "1", "3", "1 3"}},
		{"a greater atom below that sends others away", []impl.Rule{choice([]int{4}), plain(3, -4), plain(1, 4)}, []int{4}, []string{"3", "1 4"}},
		{"what must not be above", []impl.Rule{choice([]int{1}), choice([]int{3}), constraint(1, 3)}, []int{1}, []string{"", "1", "3"}},
		{"weights over both", []impl.Rule{choice([]int{1, 2}), choice([]int{3}), weighed([]int{4}, 2, wl(1, 1), wl(2, 1), wl(3, 1))}, []int{1, 2}, []string{"", "1", "2", "3", "1 2 4", "1 3 4", "2 3 4", "1 2 3 4"}},
		{"u empty", slices.Concat(either(1, 2), either(3, 4)), nil, []string{"1 3", "2 3", "1 4", "2 4"}},
		{"u empty, no answer", []impl.Rule{plain(3, -3)}, nil, nil},
		{"u empty, a rule of no atom", []impl.Rule{plain(3), constraint()}, nil, nil},
		{"u all atoms", slices.Concat(either(1, 2), either(3, 4)), all, []string{"1 3", "2 3", "1 4", "2 4"}},
		{"u all atoms, no answer", []impl.Rule{plain(3, -3)}, all, nil},
		{"u of atoms that no rule has", either(1, 2), []int{3, 4}, []string{"1", "2"}},
		{"a choice of all", []impl.Rule{choice([]int{1}), choice([]int{2}), choice([]int{3})}, []int{2}, []string{"", "1", "2", "1 2", "3", "1 3", "2 3", "1 2 3"}},
		{"a circle above of what is below", []impl.Rule{choice([]int{1}), plain(2, 3), plain(3, 2), plain(2, 1)}, []int{1}, []string{"", "1 2 3"}},
		{"a circle above with weights", []impl.Rule{choice([]int{1}), weighed([]int{2}, 2, wl(3, 2), wl(1, 1)), weighed([]int{3}, 2, wl(2, 1), wl(1, 2))}, []int{1}, []string{"", "1 2 3"}},
	} {
		p := impl.Prog{Atoms: 4, Rules: c.rules}
		checkSplitAnswers(t, c.name, p, c.u, c.want...)
		checkSplitAnswers(t, c.name+", external ones beside", impl.Prog{Atoms: 5, Rules: c.rules, Exts: []impl.Ext{{Atom: 5, V: 2}}, ProjOn: true}, c.u, c.want...)
	}
}

// TestSplitAnswersOfAllAtoms: all sets there are, in order, whatever is below.
func TestSplitAnswersOfAllAtoms(t *testing.T) {
	var p impl.Prog
	p.Atoms = 12
	for a := 12; a > 0; a-- {
		p.Rules = append(p.Rules, choice([]int{a}))
	}
	for _, u := range [][]int{nil, {1}, {12}, {1, 12}, {1, 3, 5, 7, 9, 11}, {2, 4, 6, 8, 10, 12}, {7, 8, 9, 10, 11, 12}, impl.SetOf(4095)} {
		list, ok := impl.SplitAnswers(p, u)
		nums := numsOf(list)
		if !ok || len(nums) != 4096 {
			t.Fatalf("SplitAnswers by %v are %d, %v", u, len(nums), ok)
		}
		for i, s := range list {
			if nums[i] != i || !impl.SetOk(s.A, 12) {
				t.Fatalf("SplitAnswers by %v: at place %d there is %v", u, i, s.A)
			}
		}
	}
}

func TestClosure(t *testing.T) {
	chain := []impl.Rule{plain(1, 2), plain(2, 3), plain(3, 4)}
	back := []impl.Rule{plain(3, 4), plain(2, 3), plain(1, 2)}
	for _, c := range []struct {
		name  string
		rules []impl.Rule
		u     []int
		want  string
	}{
		{"no rules, the empty set", nil, nil, ""},
		{"no rules, one atom", nil, []int{3}, "3"},
		{"no rules, all atoms", nil, []int{1, 2, 3, 4, 5}, "1 2 3 4 5"},
		{"the empty set", chain, nil, ""},
		{"an empty list", chain, []int{}, ""},
		{"a chain from its first", chain, []int{1}, "1 2 3 4"},
		{"a chain from its second", chain, []int{2}, "2 3 4"},
		{"a chain from its third", chain, []int{3}, "3 4"},
		{"a chain from its last", chain, []int{4}, "4"},
		{"a chain from what is not in it", chain, []int{5}, "5"},
		{"a chain in the other order, from its first", back, []int{1}, "1 2 3 4"},
		{"a chain in the other order, from its second", back, []int{2}, "2 3 4"},
		{"a chain in the other order, from its last", back, []int{4}, "4"},
		{"a chain and what is not in it", back, []int{2, 5}, "2 3 4 5"},
		{"below 0", []impl.Rule{plain(1, -2), plain(2, -3)}, []int{1}, "1 2 3"},
		{"below 0, in the other order", []impl.Rule{plain(2, -3), plain(1, -2)}, []int{1}, "1 2 3"},
		{"both", []impl.Rule{plain(1, 4, -2)}, []int{1}, "1 2 4"},
		{"a body alone", []impl.Rule{plain(1, 4, -2)}, []int{2, 4}, "2 4"},
		{"two rules of one head", []impl.Rule{plain(1, 2), plain(1, -4)}, []int{1}, "1 2 4"},
		{"a circle", loop(1, 3, 5), []int{3}, "1 3 5"},
		{"a circle, from beside it", with(loop(1, 3, 5), plain(2, 1)), []int{2}, "1 2 3 5"},
		{"its own head", []impl.Rule{plain(2, 2)}, []int{2}, "2"},
		{"several heads, from the first", []impl.Rule{choice([]int{1, 2, 4})}, []int{1}, "1 2 4"},
		{"several heads, from the last", []impl.Rule{choice([]int{1, 2, 4})}, []int{4}, "1 2 4"},
		{"several heads and a body", []impl.Rule{choice([]int{1, 2}, -4)}, []int{2}, "1 2 4"},
		{"several heads, from the body", []impl.Rule{choice([]int{1, 2}, -4)}, []int{4}, "4"},
		{"from one head to another one's rule", []impl.Rule{plain(4, 5), plain(2, 3), choice([]int{1, 2, 4})}, []int{1}, "1 2 3 4 5"},
		{"without Heads", []impl.Rule{constraint(1, 2), constraint(-1, 3)}, []int{1}, "1"},
		{"without Heads, and no atom", []impl.Rule{constraint(), constraint(-1, 3)}, []int{2}, "2"},
		{"without Heads, with Weight", []impl.Rule{weighed(nil, 0, wl(1, 1), wl(2, 1))}, []int{1}, "1"},
		{"with Weight", []impl.Rule{weighed([]int{1}, 2, wl(2, 1), wl(-3, 1))}, []int{1}, "1 2 3"},
		{"with Weight and Bound 0", []impl.Rule{weighed([]int{1}, 0, wl(2, 1), wl(-3, 1))}, []int{1}, "1 2 3"},
		{"with Weight and Choice", []impl.Rule{weighedChoice([]int{1, 5}, 9, wl(2, 1))}, []int{5}, "1 2 5"},
		{"a body that never holds", []impl.Rule{plain(1, 2, -2)}, []int{1}, "1 2"},
		{"atoms above Atoms", chain, []int{6}, ""},
		{"atoms above Atoms beside others", chain, []int{3, 6, 12}, "3 4"},
		{"numbers that are no atoms", chain, []int{0, -3, 13, math.MinInt, math.MaxInt, 1<<32 + 1}, ""},
		{"numbers that are no atoms beside others", chain, []int{-1, 0, 3, 13, 65}, "3 4"},
		{"falling", chain, []int{5, 3}, "3 4 5"},
		{"not rising, one twice", chain, []int{5, 3, 5, 3, 4}, "3 4 5"},
	} {
		checkClosure(t, c.name, impl.Prog{Atoms: 5, Rules: c.rules}, c.u, c.want)
	}
	up, down := impl.Prog{Atoms: 12}, impl.Prog{Atoms: 12}
	for a := 1; a < 12; a++ {
		up.Rules = append(up.Rules, plain(a, -(a+1)))
		down.Rules = append(down.Rules, plain(a+1, a))
	}
	checkClosure(t, "all atoms up", up, []int{1}, impl.SetText(impl.SetOf(4095)))
	checkClosure(t, "all atoms down", down, []int{12}, impl.SetText(impl.SetOf(4095)))
	slices.Reverse(up.Rules)
	slices.Reverse(down.Rules)
	checkClosure(t, "all atoms up, in the other order", up, []int{1}, impl.SetText(impl.SetOf(4095)))
	checkClosure(t, "all atoms down, in the other order", down, []int{12}, impl.SetText(impl.SetOf(4095)))
}

// TestClosureOfExtsAndAssume: of what Fold adds each rule has one atom, as a head or without one, so that nothing is added by it.
func TestClosureOfExtsAndAssume(t *testing.T) {
	p := impl.Prog{Atoms: 5, Rules: []impl.Rule{plain(3, 1), plain(4, -3)}, Exts: []impl.Ext{{Atom: 1}, {Atom: 2, V: 1}, {Atom: 3, V: 2}, {Atom: 4}}, Assume: []int{1, -2, 5}}
	for num, want := range map[int]string{0: "", 1: "1", 2: "2", 4: "1 3", 8: "1 3 4", 16: "5", 10: "1 2 3 4", 18: "2 5"} {
		checkClosure(t, "external and assumed", p, impl.SetOf(num), want)
	}
}

// checkNothingSplit fails where something is told of p, whatever the sets are.
func checkNothingSplit(t *testing.T, name string, p impl.Prog) {
	t.Helper()
	for _, u := range append(slices.Clone(lists), []int{1, 2, 3, 4}, impl.SetOf(255), impl.SetOf(511)) {
		checkNoSplit(t, name, p, u)
		checkClosure(t, name, p, u, "")
	}
}

// TestSplitOfNoProgram: of each something would be told, but for one change.
func TestSplitOfNoProgram(t *testing.T) {
	whole := wholeProg()
	whole.Levels[1].Lits = []impl.WLit{wl(-3, 2), wl(5, 0)}
	checkSplitAnswers(t, "without a change", deepCopy(whole), []int{1, 2, 3, 4})
	checkClosure(t, "without a change", whole, []int{3, 7}, "1 2 3 4 7")
	for name, change := range noCosts() {
		p := deepCopy(whole)
		change(&p)
		if impl.ProgOk(p) {
			t.Errorf("%s: this is a program", name)
		}
		checkNothingSplit(t, name, p)
	}
	fact := []impl.Rule{plain(1)}
	for name, p := range map[string]impl.Prog{
		"Atoms below 0":            {Atoms: -1},
		"Atoms passed by one":      {Atoms: 13},
		"a head above Atoms":       {Rules: fact},
		"the greatest Atoms":       {Atoms: math.MaxInt},
		"the least Atoms":          {Atoms: math.MinInt},
		"two heads":                {Atoms: 4, Rules: []impl.Rule{{Heads: []int{1, 2}}}},
		"a choice without a head":  {Atoms: 4, Rules: []impl.Rule{{Choice: true}}},
		"W 0":                      {Atoms: 4, Rules: []impl.Rule{weighed(nil, 1, wl(2, 0))}},
		"Bound without Weight":     {Atoms: 4, Rules: []impl.Rule{{Bound: 1}}},
		"Bound passed by one":      {Atoms: 4, Rules: []impl.Rule{weighed(nil, 100001)}},
		"Bound below by one":       {Atoms: 4, Rules: []impl.Rule{weighed(nil, -100001)}},
		"more than MaxBody":        {Atoms: 4, Rules: []impl.Rule{constraint(times(21, 1)...)}},
		"Project without ProjOn":   {Atoms: 4, Project: []int{1}},
		"a Text with a blank":      {Atoms: 4, Shows: []impl.Show{{Text: "a b"}}},
		"V 3":                      {Atoms: 4, Exts: []impl.Ext{{Atom: 1, V: 3}}},
		"literal 0 assumed":        {Atoms: 4, Assume: []int{0}},
		"one more than is assumed": {Atoms: 4, Assume: times(21, 1)},
	} {
		checkNothingSplit(t, name, p)
	}
	for _, p := range odd() {
		if !impl.ProgOk(p) {
			checkNothingSplit(t, "an odd program", p)
		}
	}
}

// TestSplitAndRoom: with just MaxRules rules of Fold there is something to tell, with one more there is nothing.
func TestSplitAndRoom(t *testing.T) {
	for _, c := range []struct {
		name   string
		rules  int
		exts   []impl.Ext
		assume []int
		bottom []impl.Rule
		want   []string
	}{
		{"MaxRules rules", 60, nil, nil, nil, []string{"12"}},
		{"MaxRules rules with V 0", 59, []impl.Ext{{Atom: 1}}, nil, []impl.Rule{choice([]int{1})}, []string{"12", "1 12"}},
		{"MaxRules rules with V 1", 59, []impl.Ext{{Atom: 1, V: 1}}, nil, []impl.Rule{plain(1)}, []string{"1 12"}},
		{"V 2 is no rule", 60, []impl.Ext{{Atom: 1, V: 2}}, nil, nil, []string{"12"}},
		{"an external head is no rule", 60, []impl.Ext{{Atom: 12}}, nil, nil, []string{"12"}},
		{"MaxRules rules with what is assumed", 58, nil, []int{-1, 12}, []impl.Rule{constraint(1)}, []string{"12"}},
		{"MaxRules rules with both", 57, []impl.Ext{{Atom: 1}}, []int{12, 1}, []impl.Rule{choice([]int{1}), constraint(-1)}, []string{"1 12"}},
	} {
		p := impl.Prog{Atoms: 12, Rules: times(c.rules, plain(12, -11)), Exts: c.exts, Assume: c.assume}
		u := []int{1, 2, 11}
		checkBottom(t, c.name, p, u, c.bottom...)
		checkSplitAnswers(t, c.name, p, u, c.want...)
		checkClosure(t, c.name, p, []int{1, 12}, "1 11 12")
		if top := impl.Top(p, u, nil); len(top.Rules) < c.rules || !alike(top.Rules[:c.rules], times(c.rules, plain(12))) {
			t.Errorf("%s: Top is %+v", c.name, top)
		}
		if top := impl.Top(p, u, []int{11}); len(top.Rules) > 1 {
			t.Errorf("%s: Top is %+v", c.name, top)
		}
		rule, literal := deepCopy(p), deepCopy(p)
		rule.Rules = append(rule.Rules, plain(12, -11))
		literal.Assume = append(literal.Assume, 12)
		checkNothingSplit(t, c.name+", and a rule more", rule)
		checkNothingSplit(t, c.name+", and a literal more", literal)
	}
	checkNothingSplit(t, "MaxRules rules and V 0", impl.Prog{Atoms: 4, Rules: times(60, plain(4)), Exts: []impl.Ext{{Atom: 1}}})
	checkNothingSplit(t, "MaxRules rules and V 1", impl.Prog{Atoms: 4, Rules: times(60, plain(4)), Exts: []impl.Ext{{Atom: 1, V: 1}}})
	checkNothingSplit(t, "a program at its limits", atLimits())
}

// wholeIn tells whether all atoms of a rule stand in u.
func wholeIn(r impl.Rule, u []int) bool {
	for _, w := range r.Body {
		if !slices.Contains(u, sized(w.L)) {
			return false
		}
	}
	return len(without(r.Heads, u)) == 0
}

// splitIs tells by the definition whether u, a set of atoms up to Atoms, splits rules.
func splitIs(rules []impl.Rule, u []int) bool {
	return !slices.ContainsFunc(rules, func(r impl.Rule) bool {
		return len(without(r.Heads, u)) < len(r.Heads) && !wholeIn(r, u)
	})
}

// partsBy are the rules below and those above, where x decides, by the definition.
func partsBy(rules []impl.Rule, u, x []int) (below, above []impl.Rule) {
	for _, r := range rules {
		if wholeIn(r, u) {
			below = append(below, r)
			continue
		}
		rest := impl.Rule{Choice: r.Choice, Heads: r.Heads, Weight: r.Weight, Bound: r.Bound}
		stays := true
		for _, w := range r.Body {
			switch {
			case !slices.Contains(u, sized(w.L)):
				rest.Body = append(rest.Body, w)
			case slices.Contains(x, sized(w.L)) != (w.L > 0):
				stays = stays && r.Weight
			case r.Weight:
				rest.Bound -= w.W
			}
		}
		if r.Weight && rest.Bound <= 0 {
			rest = impl.Rule{Choice: r.Choice, Heads: r.Heads}
		}
		if stays {
			above = append(above, rest)
		}
	}
	return below, above
}

// closureBy is what all sets have that split rules and have the atoms of u: by this the least one is told without making it.
func closureBy(rules []impl.Rule, n int, u []int) string {
	all := 1<<n - 1
	for num := range 1 << n {
		if s := impl.SetOf(num); len(without(u, s)) == 0 && splitIs(rules, s) {
			all &= num
		}
	}
	return textOf(impl.SetOf(all))
}

// someSplit is a program of n atoms with a set of atoms that splits it: what its rules lack for that is left out.
func someSplit(from *rand.Rand, n int) (impl.Prog, []int) {
	u := impl.SetOf(from.Intn(1 << n))
	p := someOpen(from, n)
	for range from.Intn(3) {
		p.Rules = append(p.Rules, choice(impl.SetOf(1+from.Intn(1<<n-1))), choice([]int{1 + from.Intn(n)}))
	}
	for range from.Intn(3) {
		r := someHeavy(from, n)
		r.Body = r.Body[:min(len(r.Body), 4)]
		p.Rules = append(p.Rules, r)
	}
	for i, r := range p.Rules {
		below := impl.SetMeet(r.Heads, u)
		if len(below) == 0 {
			continue
		}
		p.Rules[i].Heads, p.Rules[i].Body = below, nil
		for _, w := range r.Body {
			if slices.Contains(u, sized(w.L)) {
				p.Rules[i].Body = append(p.Rules[i].Body, w)
			}
		}
	}
	return p, u
}

// TestSplitOfMany: of many programs, and all sets of their atoms, what the definitions tell.
func TestSplitOfMany(t *testing.T) {
	from := rand.New(rand.NewSource(70))
	split, not, above, less := 0, 0, 0, 0
	for i := range 1200 {
		n := 1 + from.Intn(5)
		p, _ := someSplit(from, n)
		if i%3 == 0 {
			p = someFree(from, n)
		}
		folded, ok := impl.Fold(p)
		if !ok {
			t.Fatalf("%+v is not folded", p)
		}
		for num := range 1 << n {
			u := impl.SetOf(num)
			checkClosure(t, "one of many", p, u, closureBy(folded.Rules, n, u))
			if !splitIs(folded.Rules, u) {
				not++
				checkNoSplit(t, "one of many", p, u)
				continue
			}
			split++
			checkIsSplit(t, "one of many", p, u)
			for range 4 {
				x := impl.SetOf(from.Intn(1 << n))
				below, rest := partsBy(folded.Rules, u, x)
				checkBottom(t, "one of many", p, u, below...)
				checkTop(t, "one of many", p, u, x, rest...)
				if len(rest) > 0 && len(below) > 0 {
					above++
				}
				if len(rest)+len(below) < len(folded.Rules) {
					less++
				}
			}
		}
	}
	if split < 4000 || not < 4000 || above < 3000 || less < 3000 {
		t.Errorf("the programs are too much alike: %d are split, %d are not, %d have rules on both sides, %d lose some", split, not, above, less)
	}
}

// TestSplitAnswersAreTheAnswers: where p is split, what its parts give is what the definition tells of the whole.
func TestSplitAnswersAreTheAnswers(t *testing.T) {
	from := rand.New(rand.NewSource(71))
	none, one, many, both := 0, 0, 0, 0
	for i := range 3000 {
		n := 1 + from.Intn(6)
		p, u := someSplit(from, n)
		if i%3 == 0 {
			p = someFree(from, n)
			u = impl.Closure(p, u)
		}
		list, ok := impl.SplitAnswers(p, u)
		want := answersOfWhole(p)
		if got := numsOf(list); !ok || !slices.Equal(got, want) {
			t.Fatalf("SplitAnswers(%+v, %v) = %v, %v, not %v", p, u, got, ok, want)
		}
		if got := numsOf(impl.Answers(p)); !slices.Equal(got, want) {
			t.Fatalf("Answers(%+v) = %v, not %v", p, got, want)
		}
		switch len(list) {
		case 0:
			none++
		case 1:
			one++
		default:
			many++
		}
		if len(list) > 3 && differ(list, u) && differ(list, without(impl.SetOf(1<<n-1), u)) {
			both++
		}
	}
	if none < 300 || one < 300 || many < 500 || both < 100 {
		t.Errorf("the programs are too much alike: %d have no answer, %d one, %d more, %d of them on both sides", none, one, many, both)
	}
}

// differ tells whether some of the sets are not the same within u.
func differ(list []impl.Set, u []int) bool {
	return slices.ContainsFunc(list, func(s impl.Set) bool {
		return !slices.Equal(impl.SetMeet(s.A, u), impl.SetMeet(list[0].A, u))
	})
}

// TestAnswersByTheirParts: a set is an answer just where its part within u is an answer of Bottom, and the rest one of the Top that this part leaves.
func TestAnswersByTheirParts(t *testing.T) {
	from := rand.New(rand.NewSource(72))
	is, below, neither := 0, 0, 0
	for range 1500 {
		n := 1 + from.Intn(5)
		p, u := someSplit(from, n)
		bottom := impl.Bottom(p, u)
		if !impl.ProgOk(bottom) {
			t.Fatalf("Bottom(%+v, %v) is no program", p, u)
		}
		for num := range 1 << n {
			x := impl.SetOf(num)
			y, z := impl.SetMeet(x, u), impl.SetLess(x, u)
			top := impl.Top(p, u, y)
			if !impl.ProgOk(top) {
				t.Fatalf("Top(%+v, %v, %v) is no program", p, u, y)
			}
			one, other := impl.Answer(bottom, y), impl.Answer(top, z)
			if impl.Answer(p, x) != (one && other) {
				t.Fatalf("%v is an answer of %+v: %v, within %v: %v, of the rest: %v", x, p, impl.Answer(p, x), u, one, other)
			}
			switch {
			case one && other:
				is++
			case one:
				below++
			default:
				neither++
			}
		}
	}
	if is < 1000 || below < 2000 || neither < 2000 {
		t.Errorf("the programs are too much alike: %d answers, %d other sets that are one below, %d that are not", is, below, neither)
	}
}

// TestWhatIsClosedSplits: with a Closure a program is split; what splits it is its own one; no lesser set with the same atoms splits it.
func TestWhatIsClosedSplits(t *testing.T) {
	from := rand.New(rand.NewSource(73))
	own, greater := 0, 0
	for range 1500 {
		n := 1 + from.Intn(12)
		p := someFree(from, n)
		for range 20 {
			u := impl.SetOf(from.Intn(1 << n))
			closure := impl.Closure(p, u)
			if !impl.SetOk(closure, n) || !impl.SetIn(u, closure) {
				t.Fatalf("Closure(%+v, %v) = %v", p, u, closure)
			}
			checkIsSplit(t, "a closure", p, closure)
			checkClosure(t, "a closure", p, closure, textOf(closure))
			if is := slices.Equal(closure, u); impl.IsSplit(p, u) != is {
				t.Fatalf("%v splits %+v: %v, its closure is %v", u, p, !is, closure)
			} else if is {
				own++
			} else {
				greater++
			}
			for _, a := range impl.SetLess(closure, u) {
				if lesser := without(closure, []int{a}); impl.IsSplit(p, lesser) {
					t.Fatalf("Closure(%+v, %v) = %v, though %v splits it", p, u, closure, lesser)
				}
			}
		}
	}
	if own < 2000 || greater < 10000 {
		t.Errorf("the programs are too much alike: %d sets are closed, %d are not", own, greater)
	}
}

// TestSplitOfManyAtoms: of programs of up to all atoms, against the answers by the search.
func TestSplitOfManyAtoms(t *testing.T) {
	from := rand.New(rand.NewSource(74))
	found := 0
	for range 150 {
		n := 7 + from.Intn(6)
		p, u := someSplit(from, n)
		list, ok := impl.SplitAnswers(p, u)
		search := impl.Search(p, nil, 0, impl.MaxBudget)
		want := numsOf(search.Sets)
		slices.Sort(want)
		if got := numsOf(list); !ok || !search.Done || !slices.Equal(got, want) {
			t.Fatalf("SplitAnswers(%+v, %v) = %v, %v, not %v", p, u, got, ok, want)
		}
		found += len(list)
	}
	if found < 1000 {
		t.Errorf("the programs are too much alike: %d answers", found)
	}
}

// TestSplitAtLimits: as many rules and literals as may be, of all atoms, half of them below.
func TestSplitAtLimits(t *testing.T) {
	below, above := choice(impl.SetOf(63)), choice(impl.SetOf(4095-63))
	var row []impl.WLit
	for i := range 20 {
		row = append(row, wl((1+i%12)*(1-i%2*2), 1000))
	}
	p := impl.Prog{Atoms: 12, Rules: slices.Concat([]impl.Rule{below, above}, times(58, weighed(nil, 15000, row...)))}
	u := []int{1, 2, 3, 4, 5, 6}
	checkSplitAnswers(t, "at its limits", p, u, textsOf(impl.Answers(p))...)
	if n := impl.Count(p); n < 10 || n > 4000 {
		t.Errorf("at its limits there are %d answers", n)
	}
	_, rest := partsBy(p.Rules, u, []int{1, 3})
	checkTop(t, "at its limits", p, u, []int{1, 3}, rest...)
	checkBottom(t, "at its limits", p, u, below)
}

// splittable are programs, and what is none, for calls that must leave them as they are.
func splittable() []impl.Prog {
	return append(likeable(),
		impl.Prog{Atoms: 6, Rules: []impl.Rule{
			weighed([]int{4}, 6, wl(1, 3), wl(5, 4), wl(-2, 5)), plain(5, 1, -6, -2), choice([]int{1, 2}), weighedChoice([]int{5, 6}, 2, wl(1, 1), wl(-2, 1), wl(4, 1)),
			constraint(1, 2), constraint(-1, 4), weighed(nil, 0, wl(4, 1)),
		}, Exts: []impl.Ext{{Atom: 2}, {Atom: 3}, {Atom: 6, V: 1}}, Assume: []int{-3, 6}},
		rulesOf(12, choice([]int{1, 12}), plain(3, 1, -12), constraint()),
		rulesOf(12, choice([]int{1, 12}), plain(3, 1, -12, 7), plain(7)),
	)
}

// belows are lists of which some split some of those programs.
func belows() [][]int {
	return append(slices.Clone(lists), []int{1, 2}, []int{1, 2, 3}, []int{2, 3, 4}, []int{1, 2, 3, 4}, []int{1, 3, 12})
}

func TestSplitArgumentsAreKept(t *testing.T) {
	for _, made := range splittable() {
		for i, list := range belows() {
			u, x := withSpare(list), withSpare(belows()[(i+7)%len(belows())])
			keeping(t, "IsSplit", withSpare(made), func(p impl.Prog) { impl.IsSplit(p, u) })
			keeping(t, "Bottom", withSpare(made), func(p impl.Prog) { impl.Bottom(p, u) })
			keeping(t, "Top", withSpare(made), func(p impl.Prog) { impl.Top(p, u, x) })
			keeping(t, "Top", withSpare(made), func(p impl.Prog) { impl.Top(p, u, u) })
			keeping(t, "SplitAnswers", withSpare(made), func(p impl.Prog) { impl.SplitAnswers(p, u) })
			keeping(t, "Closure", withSpare(made), func(p impl.Prog) { impl.Closure(p, u) })
			checkKept(t, "a call of chapter 14", u, list)
			checkKept(t, "Top", x, belows()[(i+7)%len(belows())])
		}
	}
}

func TestSplitSpareIsNotRead(t *testing.T) {
	split := 0
	for _, made := range splittable() {
		p := withSpare(made)
		for i, list := range belows() {
			u, x := withSpare(list), withSpare(belows()[(i+7)%len(belows())])
			sets, ok := impl.SplitAnswers(p, u)
			want, also := impl.SplitAnswers(made, list)
			if ok != also || !alike(sets, want) || impl.IsSplit(p, u) != impl.IsSplit(made, list) {
				t.Errorf("the room behind the lists of %+v or %v is read", made, list)
			}
			if !alike(impl.Bottom(p, u), impl.Bottom(made, list)) || !alike(impl.Top(p, u, x), impl.Top(made, list, x[:len(x):len(x)])) {
				t.Errorf("the room behind the lists of %+v, %v or %v is read", made, list, x)
			}
			checkClosure(t, "with room behind the lists", p, u, textOf(impl.Closure(made, list)))
			if ok {
				split++
			}
		}
	}
	if split < 50 {
		t.Errorf("only %d are split", split)
	}
	p := impl.Prog{Atoms: 3, Rules: []impl.Rule{choice([]int{1}), plain(2, 1), plain(1, 3), constraint()}[:2]}
	checkIsSplit(t, "a rule behind Rules", p, []int{1, 3, 2, 4}[:1])
	checkSplitAnswers(t, "a rule behind Rules", p, []int{1, 3, 2, 4}[:2], "", "1 2")
	checkTop(t, "an atom behind x", p, []int{1}, []int{2, 1}[:1])
	checkClosure(t, "an atom behind u", p, []int{2, 3}[:1], "1 2")
}

func TestSplitAnswersAreNew(t *testing.T) {
	for _, made := range splittable() {
		for i, list := range belows() {
			p, u, x := withSpare(made), withSpare(list), withSpare(belows()[(i+7)%len(belows())])
			all := []any{p, u, x}
			for range 2 {
				bottom, top, own, closure := impl.Bottom(p, u), impl.Top(p, u, x), impl.Top(p, u, u), impl.Closure(p, u)
				sets, _ := impl.SplitAnswers(p, u)
				handsOutNothing(t, "Bottom", reflect.ValueOf(bottom))
				handsOutNothing(t, "Top", reflect.ValueOf(top))
				handsOutNothing(t, "Top", reflect.ValueOf(own))
				handsOutNothing(t, "SplitAnswers", reflect.ValueOf(sets))
				handsOutNothing(t, "Closure", reflect.ValueOf(closure))
				all = append(all, bottom, top, own, closure, sets)
			}
			checkApart(t, "a call of chapter 14", all...)
		}
	}
	p := rulesOf(4, choice([]int{1, 2}), plain(3, 4, -2), plain(3, 4, -2))
	for range 2 {
		bottom, top := impl.Bottom(p, []int{1, 2}), impl.Top(p, []int{1, 2}, nil)
		overwrite(bottom.Rules[0].Heads, -1)
		overwrite(top.Rules[0].Heads, -1)
		top.Rules[0].Body[0].L = -1
		if !alike(top.Rules[1], plain(3, 4)) {
			t.Errorf("where one rule is written into, the other one is %+v", top.Rules[1])
		}
		list, _ := impl.SplitAnswers(p, []int{1, 2})
		for i, s := range list {
			overwrite(s.A, -1-i)
		}
		overwrite(impl.Closure(p, []int{3}), -1)
	}
	checkBottom(t, "where some are written into", p, []int{1, 2}, choice([]int{1, 2}))
	checkTop(t, "where some are written into", p, []int{1, 2}, nil, plain(3, 4), plain(3, 4))
	checkSplitAnswers(t, "where some are written into", p, []int{1, 2}, "", "1", "2", "1 2")
	checkClosure(t, "where some are written into", p, []int{3}, "1 2 3 4")
}
