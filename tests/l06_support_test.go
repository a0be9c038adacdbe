package tests

import (
	"math"
	"math/rand"
	"reflect"
	"slices"
	"strconv"
	"strings"
	"testing"

	"loop.example/g00554/impl"
)

// without is x with the atoms of u left out, in the order in which they stand.
func without(x, u []int) []int {
	var left []int
	for _, a := range x {
		if !slices.Contains(u, a) {
			left = append(left, a)
		}
	}
	return left
}

// edgesText are edges as they stand in a list, each as its two atoms with a > between.
func edgesText(edges []impl.Edge) string {
	words := make([]string, 0, len(edges))
	for _, e := range edges {
		words = append(words, strconv.Itoa(e.From)+">"+strconv.Itoa(e.To))
	}
	return strings.Join(words, " ")
}

// loop gives each of its atoms where the next one is there.
func loop(atoms ...int) []impl.Rule {
	var rules []impl.Rule
	for i, a := range atoms {
		rules = append(rules, plain(a, atoms[(i+1)%len(atoms)]))
	}
	return rules
}

func checkSupported(t *testing.T, name string, p impl.Prog, x []int, want bool) {
	t.Helper()
	if impl.Supported(p, x) != want {
		t.Errorf("%s: Supported(%+v, %v) is not %v", name, p, x, want)
	}
}

func checkUnfounded(t *testing.T, name string, p impl.Prog, x []int, want string) {
	t.Helper()
	if got := textOf(impl.Unfounded(p, x)); got != want {
		t.Errorf("%s: Unfounded(%+v, %v) = %q, not %q", name, p, x, got, want)
	}
}

func checkIsUnfounded(t *testing.T, name string, p impl.Prog, x, u []int, want bool) {
	t.Helper()
	if impl.IsUnfounded(p, x, u) != want {
		t.Errorf("%s: IsUnfounded(%+v, %v, %v) is not %v", name, p, x, u, want)
	}
}

func checkBroken(t *testing.T, name string, p impl.Prog, x []int, want string) {
	t.Helper()
	if got := textOf(impl.Broken(p, x)); got != want {
		t.Errorf("%s: Broken(%+v, %v) = %q, not %q", name, p, x, got, want)
	}
}

// checkGraph fails where Edges, Comps or Tight of p are other ones.
func checkGraph(t *testing.T, name string, p impl.Prog, edges string, comps []string, tight bool) {
	t.Helper()
	if got := edgesText(impl.Edges(p)); got != edges {
		t.Errorf("%s: Edges(%+v) = %q, not %q", name, p, got, edges)
	}
	if got := textsOf(impl.Comps(p)); !slices.Equal(got, comps) {
		t.Errorf("%s: Comps(%+v) = %q, not %q", name, p, got, comps)
	}
	if impl.Tight(p) != tight {
		t.Errorf("%s: Tight(%+v) is not %v", name, p, tight)
	}
}

func TestSupported(t *testing.T) {
	row := []impl.WLit{wl(2, 2), wl(-3, 1)}
	for _, c := range []struct {
		name  string
		rules []impl.Rule
		x     []int
		want  bool
	}{
		{"no rules and no atoms", nil, nil, true},
		{"no rules", nil, []int{1}, false},
		{"a head without Choice", []impl.Rule{plain(1)}, []int{1}, true},
		{"one atom more", []impl.Rule{plain(1)}, []int{1, 2}, false},
		{"one atom less", []impl.Rule{plain(1), plain(2)}, []int{2}, true},
		{"no model, and no atoms", []impl.Rule{plain(1), constraint()}, nil, true},
		{"a body that holds", []impl.Rule{plain(2), plain(1, 2)}, []int{1, 2}, true},
		{"a body that does not hold", []impl.Rule{plain(2), plain(1, 2)}, []int{1}, false},
		{"one literal of two", []impl.Rule{plain(2), plain(1, 2, 3)}, []int{1, 2}, false},
		{"the second of two rules", []impl.Rule{plain(1, 2), plain(1, -2)}, []int{1}, true},
		{"none of two rules", []impl.Rule{plain(1, 2), plain(1, -1)}, []int{1}, false},
		{"a circle", []impl.Rule{plain(1, 2), plain(2, 1)}, []int{1, 2}, true},
		{"half of a circle", []impl.Rule{plain(1, 2), plain(2, 1)}, []int{2}, false},
		{"its own body", []impl.Rule{plain(1, 1)}, []int{1}, true},
		{"itself below 0", []impl.Rule{plain(1, -1)}, []int{1}, false},
		{"a constraint is of no head", []impl.Rule{constraint(1)}, []int{1}, false},
		{"a constraint that is broken", []impl.Rule{plain(1), constraint(1)}, []int{1}, true},

		{"an atom of a body above 0 alone", []impl.Rule{plain(1, 2)}, []int{1, 2}, false},
		{"an atom of a body below 0 alone", []impl.Rule{plain(1, -2)}, []int{2}, false},
		{"an atom of a body below 0 alone, beside the head", []impl.Rule{plain(1, -2)}, []int{1, 2}, false},
		{"an atom of a body below 0 that is not there", []impl.Rule{plain(1, -2)}, []int{1}, true},

		{"heads with Choice", []impl.Rule{choice([]int{1, 2, 3})}, []int{1, 3}, true},
		{"one atom that is no head with Choice", []impl.Rule{choice([]int{1, 2, 3})}, []int{1, 4}, false},
		{"Choice with a body that holds", []impl.Rule{plain(3), choice([]int{1, 2}, 3)}, []int{2, 3}, true},
		{"Choice with a body that does not hold", []impl.Rule{plain(3), choice([]int{1, 2}, 3, 4)}, []int{2, 3}, false},
		{"with Choice and without, both hold", []impl.Rule{choice([]int{1, 2}), plain(1, -3)}, []int{1}, true},
		{"with Choice and without, the one with", []impl.Rule{choice([]int{1, 2}), plain(1, 3)}, []int{1}, true},
		{"with Choice and without, the one without", []impl.Rule{choice([]int{1, 2}, 3), plain(1, -3)}, []int{1}, true},
		{"with Choice and without, none holds", []impl.Rule{choice([]int{1, 2}, 3), plain(1, 4)}, []int{1}, false},

		{"Bound below 0", []impl.Rule{weighed([]int{1}, -1, row...)}, []int{1, 3}, false},
		{"Bound below 0, of its head alone", []impl.Rule{weighed([]int{1}, -1, row...), plain(3)}, []int{1, 3}, true},
		{"Bound 0", []impl.Rule{weighed([]int{1}, 0, row...), plain(3)}, []int{1, 3}, true},
		{"Bound 0 of nothing", []impl.Rule{weighed([]int{1}, 0)}, []int{1}, true},
		{"Bound 1 of nothing", []impl.Rule{weighed([]int{1}, 1)}, []int{1}, false},
		{"Bound 1", []impl.Rule{weighed([]int{1}, 1, row...), plain(3)}, []int{1, 3}, false},
		{"Bound that one literal reaches", []impl.Rule{weighed([]int{1}, 2, row...), plain(2), plain(3)}, []int{1, 2, 3}, true},
		{"Bound that one literal does not reach", []impl.Rule{weighed([]int{1}, 2, row...)}, []int{1}, false},
		{"Bound at the sum", []impl.Rule{weighed([]int{1}, 3, row...), plain(2)}, []int{1, 2}, true},
		{"Bound above the sum", []impl.Rule{weighed([]int{1}, 4, row...), plain(2)}, []int{1, 2}, false},
		{"Choice with a Bound that is reached", []impl.Rule{weighedChoice([]int{1, 4}, 1, row...)}, []int{1, 4}, true},
		{"Choice with a Bound that is not reached", []impl.Rule{weighedChoice([]int{1, 4}, 2, row...)}, []int{1, 4}, false},
	} {
		checkSupported(t, c.name, impl.Prog{Atoms: 4, Rules: c.rules}, c.x, c.want)
	}
}

func TestIsUnfounded(t *testing.T) {
	circle := loop(1, 2)
	heavy := []impl.Rule{weighed([]int{1}, 2, wl(2, 1), wl(3, 1), wl(4, 1))}
	mixed := []impl.Rule{weighed([]int{1}, 2, wl(2, 1), wl(-3, 1))}
	for _, c := range []struct {
		name  string
		rules []impl.Rule
		x, u  []int
		want  bool
	}{
		{"no rules", nil, []int{1}, []int{1}, true},
		{"a fact", []impl.Rule{plain(1)}, []int{1}, []int{1}, false},
		{"a fact and more", []impl.Rule{plain(1)}, []int{1, 2}, []int{1, 2}, false},
		{"beside a fact", []impl.Rule{plain(1)}, []int{1, 2}, []int{2}, true},
		{"a circle", circle, []int{1, 2}, []int{1, 2}, true},
		{"a circle and more", circle, []int{1, 2, 3}, []int{1, 2, 3}, true},
		{"half of a circle, the other in x", circle, []int{1, 2}, []int{1}, false},
		{"half of a circle, the other not in x", circle, []int{1}, []int{1}, true},
		{"its own body", loop(1), []int{1}, []int{1}, true},
		{"one of two rules holds", append(loop(1, 2), plain(2, -3)), []int{1, 2}, []int{1, 2}, false},
		{"no rule holds any more", append(loop(1, 2), plain(2, -3)), []int{1, 2, 3}, []int{1, 2}, true},
		{"no head of its own", []impl.Rule{plain(2, 1), constraint(1), plain(2)}, []int{1, 2}, []int{1}, true},

		{"no part of x", circle, nil, []int{1, 2}, true},
		{"no part of x, one atom in it", circle, []int{2}, []int{1, 2}, true},
		{"no part of x, no rules", nil, []int{3}, []int{1, 4}, true},
		{"no part of x, a fact", []impl.Rule{plain(1)}, nil, []int{1}, false},
		{"no part of x, a body of x", []impl.Rule{plain(1, 2)}, []int{2}, []int{1}, false},

		{"above 0 in x without u", []impl.Rule{plain(1, 3)}, []int{1, 2, 3}, []int{1, 2}, false},
		{"above 0 in x and u", []impl.Rule{plain(1, 3)}, []int{1, 3}, []int{1, 3}, true},
		{"above 0 not in x", []impl.Rule{plain(1, 3)}, []int{1}, []int{1}, true},
		{"one of two above 0 in u", []impl.Rule{plain(1, 2, 3)}, []int{1, 2, 3}, []int{1, 2}, true},
		{"below 0 not in x", []impl.Rule{plain(1, -2)}, []int{1}, []int{1}, false},
		{"below 0 in x", []impl.Rule{plain(1, -2)}, []int{1, 2}, []int{1}, true},
		{"below 0 in x and u", []impl.Rule{plain(1, -2)}, []int{1, 2}, []int{1, 2}, true},
		{"below 0 in u alone", []impl.Rule{plain(1, -2)}, []int{1}, []int{1, 2}, false},
		{"itself below 0, in x", []impl.Rule{plain(1, -1)}, []int{1}, []int{1}, true},
		{"itself below 0, not in x", []impl.Rule{plain(1, -1)}, nil, []int{1}, false},

		{"weights without those in u", heavy, []int{1, 2, 3, 4}, []int{1, 2}, false},
		{"too few weights without those in u", heavy, []int{1, 2, 3, 4}, []int{1, 2, 3}, true},
		{"too few weights in x", heavy, []int{1, 2}, []int{1}, true},
		{"weights above 0 and below", mixed, []int{1, 2}, []int{1}, false},
		{"weights above 0 in u", mixed, []int{1, 2}, []int{1, 2}, true},
		{"weights below 0 in x", mixed, []int{1, 2, 3}, []int{1}, true},
		{"weights below 0 in x and u", mixed, []int{1, 2, 3}, []int{1, 3}, true},
		{"a literal twice in u", []impl.Rule{weighed([]int{1}, 2, wl(2, 1), wl(2, 1))}, []int{1, 2}, []int{1, 2}, true},
		{"a literal twice", []impl.Rule{weighed([]int{1}, 2, wl(2, 1), wl(2, 1))}, []int{1, 2}, []int{1}, false},
		{"Bound 0", []impl.Rule{weighed([]int{1}, 0, wl(1, 1))}, []int{1}, []int{1}, false},
		{"Bound below 0", []impl.Rule{weighed([]int{1}, -7, wl(1, 1))}, []int{1}, []int{1}, false},
		{"Bound above the sum", []impl.Rule{weighed([]int{1}, 2, wl(-2, 1))}, []int{1}, []int{1}, true},

		{"a choice", []impl.Rule{choice([]int{1, 2})}, []int{1}, []int{1}, false},
		{"a choice, not in x", []impl.Rule{choice([]int{1, 2})}, nil, []int{2}, false},
		{"one head of a choice beside others", []impl.Rule{choice([]int{1, 2})}, []int{2, 3}, []int{2, 3}, false},
		{"a choice on itself", []impl.Rule{choice([]int{1, 2}, 1)}, []int{1, 2}, []int{1, 2}, true},
		{"a choice on a head outside", []impl.Rule{choice([]int{1, 2}, 1)}, []int{1, 2}, []int{2}, false},
		{"a choice whose body does not hold", []impl.Rule{choice([]int{1, 2}, 3)}, []int{1}, []int{1}, true},
	} {
		checkIsUnfounded(t, c.name, impl.Prog{Atoms: 4, Rules: c.rules}, c.x, c.u, c.want)
	}
}

// TestIsUnfoundedWantsASet: no rule has a head here, so that each set of atoms is unfounded, but for the empty one; a list that is none never is.
func TestIsUnfoundedWantsASet(t *testing.T) {
	p := impl.Prog{Atoms: 4, Rules: []impl.Rule{constraint(1, -2)}}
	for _, u := range [][]int{{1}, {4}, {1, 2}, {2, 4}, {1, 2, 3, 4}} {
		checkIsUnfounded(t, "a set", p, []int{1, 2}, u, true)
	}
	for _, u := range [][]int{
		nil, {}, {5}, {1, 5}, {12}, {4, 12}, {1, 2, 3, 4, 5}, {13}, {1, 13}, {0}, {0, 1}, {-1}, {-1, 1}, {1, 0}, {1, -2},
		{2, 1}, {4, 3, 2, 1}, {1, 3, 2}, {1, 1}, {4, 4}, {1, 2, 2}, {1, 1, 2}, {1<<32 + 1}, {math.MinInt, 1}, {1, math.MaxInt},
	} {
		checkIsUnfounded(t, "no set, or an empty one", p, []int{1, 2}, u, false)
	}
	for _, u := range lists {
		checkIsUnfounded(t, "a list", impl.Prog{Atoms: 12}, []int{3}, u, len(u) > 0 && impl.SetOk(u, 12))
	}
}

func TestUnfounded(t *testing.T) {
	circle := loop(1, 2)
	fed := append(loop(1, 2), plain(2, -3))
	for _, c := range []struct {
		name  string
		rules []impl.Rule
		x     []int
		want  string
	}{
		{"no rules and no atoms", nil, nil, ""},
		{"no rules", nil, []int{1, 3, 4}, "1 3 4"},
		{"an answer", []impl.Rule{plain(1, -2), plain(2, -1)}, []int{2}, ""},
		{"an answer of a choice", []impl.Rule{choice([]int{1, 3}), plain(4, 1, 3)}, []int{1, 3, 4}, ""},
		{"the empty answer", circle, nil, ""},
		{"a circle", circle, []int{1, 2}, "1 2"},
		{"half of a circle", circle, []int{2}, "2"},
		{"a circle with a way in", fed, []int{1, 2}, ""},
		{"a circle with a way in that x closes", fed, []int{1, 2, 3}, "1 2 3"},
		{"what hangs on a circle", append(loop(1, 2), plain(3, 1), plain(4)), []int{1, 2, 3, 4}, "1 2 3"},
		{"a fact that is not in x", []impl.Rule{plain(1), plain(3)}, []int{3, 4}, "4"},
		{"a head without Choice that is not in x", []impl.Rule{plain(2), plain(1, 2)}, []int{1}, "1"},
		{"two of them behind each other", []impl.Rule{plain(4), plain(3, 4), plain(2, 3), plain(1)}, []int{1, 2, 4}, "2"},
		{"a head with Choice that is not in x", []impl.Rule{choice([]int{2}), plain(1, 2)}, []int{1}, "1"},
		{"below 0 in x", []impl.Rule{plain(1, -2), plain(2)}, []int{1, 2}, "1"},
		{"itself below 0", []impl.Rule{plain(1, -1)}, []int{1}, "1"},
		{"a broken constraint", []impl.Rule{plain(1), constraint(1)}, []int{1}, ""},
		{"a body of its own choice", []impl.Rule{choice([]int{1, 2}, 1), choice([]int{3})}, []int{1, 2, 3}, "1 2"},
		{"weights that are reached", []impl.Rule{choice([]int{2, 3}), weighed([]int{1}, 2, wl(1, 5), wl(2, 1), wl(3, 1))}, []int{1, 2, 3}, ""},
		{"weights that are not reached", []impl.Rule{choice([]int{2, 3}), weighed([]int{1}, 2, wl(1, 5), wl(2, 1), wl(3, 1))}, []int{1, 2}, "1"},
		{"Bound 0", []impl.Rule{weighed([]int{1}, 0, wl(1, 1))}, []int{1, 2}, "2"},
		{"Bound below 0", []impl.Rule{weighed([]int{1}, -3, wl(1, 1))}, []int{1}, ""},
		{"Bound above the sum", []impl.Rule{weighed([]int{1}, 2, wl(-2, 1))}, []int{1}, "1"},
	} {
		checkUnfounded(t, c.name, impl.Prog{Atoms: 4, Rules: c.rules}, c.x, c.want)
	}
}

func TestBroken(t *testing.T) {
	some := []impl.Rule{plain(1), constraint(1), choice([]int{2, 3}), plain(3, 2, -4), constraint(-4), plain(2)}
	row := []impl.WLit{wl(2, 2), wl(-3, 1)}
	for _, c := range []struct {
		name  string
		rules []impl.Rule
		x     []int
		want  string
	}{
		{"no rules", nil, []int{1}, ""},
		{"of the empty set", some, nil, "0 4 5"},
		{"of one atom", some, []int{1}, "1 4 5"},
		{"of two atoms", some, []int{1, 2}, "1 3 4"},
		{"of another two", some, []int{2, 3}, "0 4"},
		{"of all", some, []int{1, 2, 3, 4}, "1"},
		{"of a model", some[2:], []int{2, 3, 4}, ""},
		{"a constraint of no literal", []impl.Rule{constraint(), plain(1), constraint()}, []int{1}, "0 2"},
		{"a constraint whose body does not hold", []impl.Rule{constraint(2, 1), constraint(-1)}, []int{1}, ""},
		{"a choice of what is not there", []impl.Rule{choice([]int{1, 2}), choice([]int{3}, -1)}, nil, ""},
		{"a head that is there", []impl.Rule{plain(1, 2)}, []int{1, 2}, ""},
		{"a rule beside a choice", []impl.Rule{choice([]int{1}), plain(1)}, nil, "1"},
		{"a rule twice", []impl.Rule{plain(1, 2), plain(1, 2)}, []int{2}, "0 1"},
		{"above 0 is asked of all of x", loop(1), []int{1}, ""},
		{"itself below 0", []impl.Rule{plain(1, -1)}, nil, "0"},
		{"Bound below 0", []impl.Rule{weighed([]int{1}, -1, row...), weighed(nil, -1, row...)}, []int{3}, "0 1"},
		{"Bound 0", []impl.Rule{weighed([]int{1}, 0, row...), weighed(nil, 0)}, []int{3}, "0 1"},
		{"Bound 1", []impl.Rule{weighed([]int{1}, 1, row...), weighed(nil, 1)}, []int{3}, ""},
		{"Bound at the sum", []impl.Rule{weighed([]int{1}, 3, row...), weighed(nil, 3, row...)}, []int{2}, "0 1"},
		{"Bound above the sum", []impl.Rule{weighed([]int{1}, 4, row...), weighed(nil, 4, row...)}, []int{2}, ""},
		{"a choice with weights", []impl.Rule{weighedChoice([]int{1}, 0)}, nil, ""},
	} {
		checkBroken(t, c.name, impl.Prog{Atoms: 4, Rules: c.rules}, c.x, c.want)
	}
}

func TestEdges(t *testing.T) {
	for _, c := range []struct {
		name  string
		rules []impl.Rule
		want  string
	}{
		{"no rules", nil, ""},
		{"facts", []impl.Rule{plain(1), plain(2)}, ""},
		{"from the head to the body", []impl.Rule{plain(1, 2)}, "1>2"},
		{"the other way", []impl.Rule{plain(2, 1)}, "2>1"},
		{"its own body", []impl.Rule{plain(3, 3)}, "3>3"},
		{"its own body beside others", []impl.Rule{plain(3, 4, 3, 2)}, "3>2 3>3 3>4"},
		{"of two rules, the same", []impl.Rule{plain(1, 2), plain(1, 2, -3)}, "1>2"},
		{"of two rules, some the same", []impl.Rule{plain(1, 3, 2), choice([]int{1, 2}, 4, 3)}, "1>2 1>3 1>4 2>3 2>4"},
		{"a literal twice", []impl.Rule{plain(1, 2, 2)}, "1>2"},
		{"below 0", []impl.Rule{plain(1, -2)}, ""},
		{"below 0 and above", []impl.Rule{plain(1, -2, 3)}, "1>3"},
		{"both literals of an atom", []impl.Rule{plain(1, 2, -2)}, "1>2"},
		{"without a head", []impl.Rule{constraint(1, 2, -3)}, ""},
		{"each head of a choice", []impl.Rule{choice([]int{1, 3, 4}, 2)}, "1>2 3>2 4>2"},
		{"a choice on one of its heads", []impl.Rule{choice([]int{1, 2}, 1)}, "1>1 2>1"},
		{"weights", []impl.Rule{weighed([]int{2}, 3, wl(4, 2), wl(-3, 2), wl(1, 1))}, "2>1 2>4"},
		{"weights that are never reached", []impl.Rule{weighed([]int{2}, 9, wl(4, 2))}, "2>4"},
		{"weights that need no literal", []impl.Rule{weighed([]int{2}, 0, wl(4, 2)), weighed([]int{3}, -1, wl(4, 2))}, "2>4 3>4"},
		{"a choice with weights", []impl.Rule{weighedChoice([]int{1, 2}, 3, wl(3, 2), wl(-4, 2))}, "1>3 2>3"},
		{"by From, then To", []impl.Rule{plain(4, 1), plain(2, 3, 1), plain(4, 3, -2), plain(1, 4), plain(2, 2)}, "1>4 2>1 2>2 2>3 4>1 4>3"},
	} {
		if got := edgesText(impl.Edges(impl.Prog{Atoms: 4, Rules: c.rules})); got != c.want {
			t.Errorf("%s: Edges of %+v = %q, not %q", c.name, c.rules, got, c.want)
		}
	}
}

// TestCompsAndTight: programs of six atoms.
func TestCompsAndTight(t *testing.T) {
	alone := []string{"1", "2", "3", "4", "5", "6"}
	for _, c := range []struct {
		name  string
		rules []impl.Rule
		comps []string
		tight bool
	}{
		{"atoms of no rule", nil, alone, true},
		{"facts and a constraint", []impl.Rule{plain(4), constraint(1, 2)}, alone, true},
		{"a chain", []impl.Rule{plain(1, 2), plain(2, 3), plain(3, 6)}, alone, true},
		{"two ways to one atom", []impl.Rule{plain(1, 2, 3), plain(2, 4), plain(3, 4)}, alone, true},
		{"an atom that leads to itself", []impl.Rule{plain(2, 2)}, alone, false},
		{"an atom that leads to itself and on", []impl.Rule{plain(2, 2, 3)}, alone, false},
		{"a loop of two", loop(2, 5), []string{"1", "2 5", "3", "4", "6"}, false},
		{"a loop of three", loop(6, 1, 3), []string{"1 3 6", "2", "4", "5"}, false},
		{"a loop of three, the other way", loop(3, 1, 6), []string{"1 3 6", "2", "4", "5"}, false},
		{"a loop of all", loop(1, 6, 2, 5, 3, 4), []string{"1 2 3 4 5 6"}, false},
		{"two loops", append(loop(6, 2), loop(5, 3, 1)...), []string{"1 3 5", "2 6", "4"}, false},
		{"two loops that share an atom", append(loop(1, 4), loop(4, 6, 2)...), []string{"1 2 4 6", "3", "5"}, false},
		{"two loops that share the least atom", append(loop(1, 4), loop(1, 6)...), []string{"1 4 6", "2", "3", "5"}, false},
		{"one loop that leads to another one", append(append(loop(1, 2), loop(3, 4)...), plain(2, 3)), []string{"1 2", "3 4", "5", "6"}, false},
		{"one loop to which another one leads", append(append(loop(1, 2), loop(3, 4)...), plain(4, 1)), []string{"1 2", "3 4", "5", "6"}, false},
		{"loops that lead to each other", append(append(loop(1, 2), loop(3, 4)...), plain(2, 3), plain(4, 1)), []string{"1 2 3 4", "5", "6"}, false},
		{"a loop with a way in and one out", append(loop(3, 5), plain(1, 3), plain(5, 6), plain(6, 2)), []string{"1", "2", "3 5", "4", "6"}, false},
		{"a loop behind a chain that splits", append(loop(4, 5), plain(1, 2, 3), plain(2, 4), plain(3, 6), plain(6, 5)), []string{"1", "2", "3", "4 5", "6"}, false},
		{"by the least atoms, not by how they lead", append(append(loop(5, 1), loop(2, 6)...), loop(3, 4)...), []string{"1 5", "2 6", "3 4"}, false},
		{"a loop through a rule with Choice", []impl.Rule{choice([]int{1, 2}, 3), plain(3, 2)}, []string{"1", "2 3", "4", "5", "6"}, false},
		{"a loop of rules with Choice alone", []impl.Rule{choice([]int{1, 4}, 2), choice([]int{2, 5}, 4)}, []string{"1", "2 4", "3", "5", "6"}, false},
		{"a choice on itself", []impl.Rule{choice([]int{1}, 1)}, alone, false},
		{"a choice of all", []impl.Rule{choice([]int{1, 2, 3, 4, 5, 6})}, alone, true},
		{"through a literal below 0", []impl.Rule{plain(1, -2), plain(2, 1)}, alone, true},
		{"through literals below 0 alone", []impl.Rule{plain(1, -2), plain(2, -1), plain(3, -3)}, alone, true},
		{"through a constraint", []impl.Rule{plain(1, 2), constraint(1, 2)}, alone, true},
		{"through weights", []impl.Rule{weighed([]int{1}, 1, wl(2, 1), wl(-3, 1)), weighed([]int{2}, 1, wl(1, 1), wl(-1, 1))}, []string{"1 2", "3", "4", "5", "6"}, false},
		{"through weights that need no literal", []impl.Rule{weighed([]int{1}, 0, wl(1, 1))}, alone, false},
	} {
		p := impl.Prog{Atoms: 6, Rules: c.rules}
		checkGraph(t, c.name, p, edgesText(impl.Edges(p)), c.comps, c.tight)
	}
}

// TestSupportOfLists: x counts by the atoms that stand in it; what is above Atoms is no head, and so it is not supported, but it is not unfounded either.
func TestSupportOfLists(t *testing.T) {
	p := impl.Prog{Atoms: 3, Rules: []impl.Rule{plain(1), choice([]int{2}, 1), plain(3, 1, -2), constraint(2)}}
	for _, c := range []struct {
		name      string
		x         []int
		supported bool
		unfounded string
		broken    string
	}{
		{"rising", []int{1, 2}, true, "", "3"},
		{"falling", []int{2, 1}, true, "", "3"},
		{"an atom twice", []int{2, 1, 2, 1, 1}, true, "", "3"},
		{"no atoms", []int{0, 2, -3, 13, 1, math.MinInt, math.MaxInt, 1<<32 + 3, 259}, true, "", "3"},
		{"no atoms alone", noAtoms, true, "", "0"},
		{"atoms above Atoms", []int{2, 4, 1, 12}, false, "", "3"},
		{"atoms above Atoms alone", []int{4, 5, 12}, false, "", "0"},
		{"unfounded, falling", []int{3, 2, 1}, false, "3", "3"},
		{"unfounded, with atoms above Atoms", []int{12, 3, 4, 2}, false, "2 3", "0 3"},
		{"unfounded, twice", []int{3, 3, 0}, false, "3", "0"},
		{"all atoms", impl.SetOf(4095), false, "3", "3"},
	} {
		checkSupported(t, c.name, p, c.x, c.supported)
		checkUnfounded(t, c.name, p, c.x, c.unfounded)
		checkBroken(t, c.name, p, c.x, c.broken)
		for num := range 8 {
			u := impl.SetOf(num)
			rising := impl.SetJoin(c.x, nil)
			checkIsUnfounded(t, c.name, p, c.x, u, impl.IsUnfounded(p, rising, u))
		}
	}
	checkIsUnfounded(t, "x falls", p, []int{3, 2, 1}, []int{3}, true)
	checkIsUnfounded(t, "x has what is none", p, []int{3, 15, 1, 0}, []int{3}, false)
	checkIsUnfounded(t, "x has atoms above Atoms", p, []int{12, 3, 2, 1}, []int{2, 3}, false)
}

// TestSupportOfExtsAndAssume: two atoms that are external as each case has it, and a third one that hangs on the first; Fold has its rules behind these two.
func TestSupportOfExtsAndAssume(t *testing.T) {
	rules := []impl.Rule{plain(3, 1), constraint(3, -2)}
	headed := append(slices.Clone(rules), plain(1, 3))
	both := []string{"1 3", "2"}
	for _, c := range []struct {
		name      string
		rules     []impl.Rule
		exts      []impl.Ext
		assume    []int
		x         []int
		supported bool
		unfounded string
		broken    string
		edges     string
		comps     []string
	}{
		{"V 0", rules, []impl.Ext{{Atom: 1}}, nil, []int{1, 3}, true, "", "1", "3>1", []string{"1", "2", "3"}},
		{"V 0, not in x", rules, []impl.Ext{{Atom: 1}}, nil, nil, true, "", "", "3>1", []string{"1", "2", "3"}},
		{"V 1", rules, []impl.Ext{{Atom: 1, V: 1}}, nil, []int{1, 3}, true, "", "1", "3>1", []string{"1", "2", "3"}},
		{"V 1, not in x", rules, []impl.Ext{{Atom: 1, V: 1}}, nil, nil, true, "", "2", "3>1", []string{"1", "2", "3"}},
		{"V 2", rules, []impl.Ext{{Atom: 1, V: 2}}, nil, []int{1, 3}, false, "1 3", "1", "3>1", []string{"1", "2", "3"}},
		{"two", rules, []impl.Ext{{Atom: 1}, {Atom: 2, V: 1}}, nil, []int{1, 2}, true, "", "0", "3>1", []string{"1", "2", "3"}},
		{"two, the second not in x", rules, []impl.Ext{{Atom: 1}, {Atom: 2, V: 1}}, nil, []int{1}, true, "", "0 3", "3>1", []string{"1", "2", "3"}},
		{"a head with V 0", headed, []impl.Ext{{Atom: 1}}, nil, []int{1, 3}, true, "1 3", "1", "1>3 3>1", both},
		{"a head with V 1", headed, []impl.Ext{{Atom: 1, V: 1}}, nil, nil, true, "", "", "1>3 3>1", both},
		{"assumed", rules, nil, []int{1, -2, 3}, []int{1, 2}, false, "1 2", "0 3 4", "3>1", []string{"1", "2", "3"}},
		{"assumed, of the empty set", rules, nil, []int{1, -2, 3}, nil, true, "", "2 4", "3>1", []string{"1", "2", "3"}},
		{"assumed, both of an atom", rules, nil, []int{2, -2}, []int{2}, false, "2", "3", "3>1", []string{"1", "2", "3"}},
		{"external and assumed", rules, []impl.Ext{{Atom: 1, V: 1}, {Atom: 2}}, []int{-3, 2}, []int{3}, false, "3", "1 2 4 5", "3>1", []string{"1", "2", "3"}},
	} {
		p := impl.Prog{Atoms: 3, Rules: c.rules, Exts: c.exts, Assume: c.assume}
		checkSupported(t, c.name, p, c.x, c.supported)
		checkUnfounded(t, c.name, p, c.x, c.unfounded)
		checkBroken(t, c.name, p, c.x, c.broken)
		checkGraph(t, c.name, p, c.edges, c.comps, len(c.comps) == 3)
	}
	for v, want := range []bool{false, false, true} {
		p := impl.Prog{Atoms: 2, Exts: []impl.Ext{{Atom: 1, V: v}}, Assume: []int{1, -2}}
		checkIsUnfounded(t, "external", p, []int{1}, []int{1}, want)
		checkIsUnfounded(t, "external, not in x", p, nil, []int{1}, want)
		checkIsUnfounded(t, "beside what is external", p, []int{1}, []int{2}, true)
	}
}

func TestSupportOfNoAtoms(t *testing.T) {
	for _, c := range []struct {
		name   string
		p      impl.Prog
		broken string
	}{
		{"the zero program", impl.Prog{}, ""},
		{"empty lists", impl.Prog{Rules: []impl.Rule{}, Exts: []impl.Ext{}, Assume: []int{}}, ""},
		{"constraints", impl.Prog{Rules: []impl.Rule{weighed(nil, 1), constraint(), weighed(nil, 0)}}, "1 2"},
	} {
		checkSupported(t, c.name, c.p, nil, true)
		checkSupported(t, c.name, c.p, []int{1}, false)
		checkGraph(t, c.name, c.p, "", nil, true)
		for _, x := range [][]int{nil, {0, 13}, {1}, {2, 12}} {
			checkUnfounded(t, c.name, c.p, x, "")
			checkBroken(t, c.name, c.p, x, c.broken)
			for _, u := range [][]int{nil, {0}, {1}, {12}} {
				checkIsUnfounded(t, c.name, c.p, x, u, false)
			}
		}
	}
}

func TestSupportOfMaxAtoms(t *testing.T) {
	all := impl.SetOf(4095)
	ring := impl.Prog{Atoms: 12, Rules: loop(all...)}
	edges := "1>2 2>3 3>4 4>5 5>6 6>7 7>8 8>9 9>10 10>11 11>12 12>1"
	checkGraph(t, "a ring of all", ring, edges, []string{textOf(all)}, false)
	checkSupported(t, "a ring of all", ring, all, true)
	checkSupported(t, "a ring but for one", ring, all[1:], false)
	checkUnfounded(t, "a ring of all", ring, all, textOf(all))
	checkIsUnfounded(t, "a ring of all", ring, all, all, true)
	checkIsUnfounded(t, "a ring but for one", ring, all, all[1:], false)
	checkBroken(t, "a ring but for the first", ring, all[1:], "0")
	checkBroken(t, "a ring but for the last", ring, all[:11], "11")
	chain := impl.Prog{Atoms: 12, Rules: append(ring.Rules[:11:11], plain(12))}
	var alone []string
	for _, a := range all {
		alone = append(alone, textOf([]int{a}))
	}
	checkGraph(t, "a chain of all", chain, "1>2 2>3 3>4 4>5 5>6 6>7 7>8 8>9 9>10 10>11 11>12", alone, true)
	checkUnfounded(t, "a chain of all", chain, all, "")
	checkUnfounded(t, "a chain but for one", chain, without(all, []int{6}), "1 2 3 4 5")
	checkIsUnfounded(t, "the end of a chain", chain, all, []int{12}, false)
	checkGraph(t, "no rules", impl.Prog{Atoms: 12}, "", alone, true)
	checkUnfounded(t, "no rules", impl.Prog{Atoms: 12}, all, textOf(all))
	whole := impl.Prog{Atoms: 12, Rules: []impl.Rule{choice(all, all...)}}
	if got := impl.Edges(whole); len(got) != 144 || got[0] != (impl.Edge{From: 1, To: 1}) || got[11] != (impl.Edge{From: 1, To: 12}) || got[143] != (impl.Edge{From: 12, To: 12}) {
		t.Errorf("Edges(%+v) = %v", whole, got)
	}
	checkGraph(t, "each to each", whole, edgesText(impl.Edges(whole)), []string{textOf(all)}, false)
}

// checkNoSupport fails where something is answered of what is no program, or of one that is not folded.
func checkNoSupport(t *testing.T, name string, p impl.Prog) {
	t.Helper()
	if len(impl.Edges(p)) != 0 || len(impl.Comps(p)) != 0 || impl.Tight(p) {
		t.Errorf("%s: Edges = %v, Comps = %v, Tight is %v", name, impl.Edges(p), impl.Comps(p), impl.Tight(p))
	}
	for num := range 4096 {
		x := impl.SetOf(num)
		if impl.Supported(p, x) || len(impl.Unfounded(p, x)) != 0 || len(impl.Broken(p, x)) != 0 {
			t.Errorf("%s: of %v Supported is %v, Unfounded %v, Broken %v", name, x, impl.Supported(p, x), impl.Unfounded(p, x), impl.Broken(p, x))
			return
		}
		if impl.IsUnfounded(p, nil, x) || impl.IsUnfounded(p, []int{1, 2, 9}, x) {
			t.Errorf("%s: %v is unfounded", name, x)
			return
		}
	}
}

// TestSupportOfNoProgram: each would have something to answer, but for one change.
func TestSupportOfNoProgram(t *testing.T) {
	whole := wholeProg()
	checkSupported(t, "without a change", whole, nil, true)
	checkUnfounded(t, "without a change", whole, []int{1, 7}, "1 7")
	checkIsUnfounded(t, "without a change", whole, []int{1}, []int{1}, true)
	checkBroken(t, "without a change", whole, nil, "3 6")
	checkGraph(t, "without a change", whole, "2>1 2>3 3>1", []string{"1", "2", "3", "4", "5", "6", "7", "8", "9"}, true)
	for name, change := range noProgs() {
		p := deepCopy(whole)
		change(&p)
		checkNoSupport(t, name, p)
	}
	for _, p := range append(odd(), impl.Prog{Atoms: -1}, impl.Prog{Atoms: 13}, impl.Prog{Atoms: math.MinInt}, impl.Prog{Atoms: math.MaxInt}) {
		if !impl.ProgOk(p) {
			checkNoSupport(t, "an odd program", p)
		}
	}
}

// TestSupportAndRoom: with just MaxRules rules of Fold there is something, with one more there is nothing.
func TestSupportAndRoom(t *testing.T) {
	rules := func(n int) []impl.Rule { return append(times(n-2, plain(12)), loop(10, 11)...) }
	comps := []string{"1", "2", "3", "4", "5", "6", "7", "8", "9", "10 11", "12"}
	for _, c := range []struct {
		name   string
		rules  int
		exts   []impl.Ext
		assume []int
		broken string
		folded bool
	}{
		{"MaxRules rules", 60, nil, nil, "", true},
		{"MaxRules rules with V 0", 59, []impl.Ext{{Atom: 1}}, nil, "", true},
		{"one more with V 0", 60, []impl.Ext{{Atom: 1}}, nil, "", false},
		{"MaxRules rules with V 1", 59, []impl.Ext{{Atom: 1, V: 1}}, nil, "59", true},
		{"one more with V 1", 60, []impl.Ext{{Atom: 1, V: 1}}, nil, "", false},
		{"V 2 is no rule", 60, []impl.Ext{{Atom: 1, V: 2}}, nil, "", true},
		{"an external head is no rule", 60, []impl.Ext{{Atom: 12}}, nil, "", true},
		{"MaxRules rules with what is assumed", 58, nil, []int{-12, 1}, "58 59", true},
		{"one more with what is assumed", 59, nil, []int{-12, 1}, "", false},
		{"MaxRules rules with both", 57, []impl.Ext{{Atom: 1, V: 1}}, []int{12, 1}, "57 59", true},
		{"one more with both", 58, []impl.Ext{{Atom: 1, V: 1}}, []int{12, 1}, "", false},
	} {
		p := impl.Prog{Atoms: 12, Rules: rules(c.rules), Exts: c.exts, Assume: c.assume}
		if !c.folded {
			checkNoSupport(t, c.name, p)
			continue
		}
		checkGraph(t, c.name, p, "10>11 11>10", comps, false)
		checkSupported(t, c.name, p, []int{10, 11, 12}, true)
		checkUnfounded(t, c.name, p, []int{10, 11, 12}, "10 11")
		checkIsUnfounded(t, c.name, p, []int{10, 11, 12}, []int{10, 11}, true)
		checkBroken(t, c.name, p, []int{12}, c.broken)
	}
	checkNoSupport(t, "a program at its limits", atLimits())
	tight := roomFor(1)
	tight.Exts = []impl.Ext{{Atom: 2}}
	checkGraph(t, "MaxRules rules without a loop", tight, "12>1", []string{"1", "2", "3", "4", "5", "6", "7", "8", "9", "10", "11", "12"}, true)
	tight.Rules = append(tight.Rules, plain(12, 1))
	checkNoSupport(t, "one more without a loop", tight)
}

// isHead tells whether a is a head of a rule whose body holds where what is above 0 is asked of one set, what is below 0 of another one.
func isHead(rules []impl.Rule, a int, above, below []int) bool {
	return slices.ContainsFunc(rules, func(r impl.Rule) bool {
		return slices.Contains(r.Heads, a) && gives(r, above, below)
	})
}

// unfoundedIs tells by the definition whether a set u is unfounded.
func unfoundedIs(rules []impl.Rule, x, u []int) bool {
	return len(u) > 0 && !slices.ContainsFunc(u, func(a int) bool { return isHead(rules, a, without(x, u), x) })
}

// brokenBy are by the definition the numbers of the rules that x breaks.
func brokenBy(rules []impl.Rule, x []int) string {
	var broken []int
	for i, r := range rules {
		if !modelIs([]impl.Rule{r}, x) {
			broken = append(broken, i)
		}
	}
	return textOf(broken)
}

// TestSupportOfMany: of many programs, and all x and u, what the definitions tell; what is unfounded is all that is in unfounded parts of x, and where it is not empty it is such a part itself.
func TestSupportOfMany(t *testing.T) {
	from := rand.New(rand.NewSource(21))
	supported, unfounded, founded := 0, 0, 0
	for range 400 {
		p := someWhole(from, 1+from.Intn(5))
		folded, ok := impl.Fold(p)
		if !ok {
			t.Fatalf("%+v is not folded", p)
		}
		for num := range 1 << p.Atoms {
			x := impl.SetOf(num)
			is := !slices.ContainsFunc(x, func(a int) bool { return !isHead(folded.Rules, a, x, x) })
			checkSupported(t, "one of many", p, x, is)
			checkBroken(t, "one of many", p, x, brokenBy(folded.Rules, x))
			all := 0
			for other := 1; other < 1<<p.Atoms; other++ {
				u := impl.SetOf(other)
				is := unfoundedIs(folded.Rules, x, u)
				checkIsUnfounded(t, "one of many", p, x, u, is)
				if is && other&^num == 0 {
					all |= other
				}
				if is {
					unfounded++
				} else {
					founded++
				}
			}
			checkUnfounded(t, "one of many", p, x, textOf(impl.SetOf(all)))
			checkIsUnfounded(t, "all that is unfounded", p, x, impl.Unfounded(p, x), all != 0)
			if is {
				supported++
			}
		}
	}
	if supported < 500 || unfounded < 5000 || founded < 5000 {
		t.Errorf("the programs are too much alike: %d sets are supported, %d unfounded, %d not", supported, unfounded, founded)
	}
}

// leadings tells by the definition of edges which atoms up to n lead to which, along one or more of them, and lists the edges.
func leadings(rules []impl.Rule, n int) ([][]bool, string) {
	leads := make([][]bool, n+1)
	var edges []impl.Edge
	for a := range leads {
		leads[a] = make([]bool, n+1)
		for b := 1; b <= n; b++ {
			leads[a][b] = slices.ContainsFunc(rules, func(r impl.Rule) bool {
				return slices.Contains(r.Heads, a) && slices.ContainsFunc(r.Body, func(w impl.WLit) bool { return w.L == b })
			})
			if leads[a][b] {
				edges = append(edges, impl.Edge{From: a, To: b})
			}
		}
	}
	for by := range leads {
		for a := range leads {
			for b := range leads {
				leads[a][b] = leads[a][b] || leads[a][by] && leads[by][b]
			}
		}
	}
	return leads, edgesText(edges)
}

// TestGraphsOfMany: of many programs with few atoms and with all, what the definitions tell.
func TestGraphsOfMany(t *testing.T) {
	from := rand.New(rand.NewSource(22))
	tights, loops, sizes := 0, 0, map[int]int{}
	for range 3000 {
		p := someWhole(from, 1+from.Intn(12))
		p.Rules = append(p.Rules, someProg(from, p.Atoms, from.Intn(15)).Rules...)
		folded, ok := impl.Fold(p)
		if !ok {
			t.Fatalf("%+v is not folded", p)
		}
		leads, edges := leadings(folded.Rules, p.Atoms)
		var comps []string
		tight := true
		for a := 1; a <= p.Atoms; a++ {
			var comp []int
			for b := 1; b <= p.Atoms; b++ {
				if a == b || leads[a][b] && leads[b][a] {
					comp = append(comp, b)
				}
			}
			if comp[0] == a {
				comps = append(comps, textOf(comp))
				sizes[len(comp)]++
			}
			tight = tight && !leads[a][a]
		}
		checkGraph(t, "one of many", p, edges, comps, tight)
		if tight {
			tights++
		} else {
			loops++
		}
	}
	if tights < 500 || loops < 500 || sizes[2] < 100 || sizes[3] < 100 || sizes[6] < 50 {
		t.Errorf("the programs are too much alike: %d tight, %d not, comps of the sizes %v", tights, loops, sizes)
	}
}

// TestAnswersHaveNothingUnfounded: a set is an answer just where it is a model in which nothing is unfounded, told by Unfounded and by IsUnfounded of each of its parts; where nothing is broken it is a model.
func TestAnswersHaveNothingUnfounded(t *testing.T) {
	from := rand.New(rand.NewSource(23))
	answers, others := 0, 0
	for range 1000 {
		p := someWhole(from, 1+from.Intn(5))
		folded, _ := impl.Fold(p)
		for num := range 1 << p.Atoms {
			x := impl.SetOf(num)
			is, model := impl.Answer(p, x), impl.Model(folded, x)
			if model != (len(impl.Broken(p, x)) == 0) {
				t.Fatalf("Broken(%+v, %v) = %v, but Model is %v", p, x, impl.Broken(p, x), model)
			}
			if is != (model && len(impl.Unfounded(p, x)) == 0) {
				t.Fatalf("Answer(%+v, %v) is %v, Model %v, and Unfounded %v", p, x, is, model, impl.Unfounded(p, x))
			}
			if is != (model && !hasUnfounded(p, num)) {
				t.Fatalf("Answer(%+v, %v) is %v, Model %v, and a part unfounded %v", p, x, is, model, hasUnfounded(p, num))
			}
			if is {
				answers++
			} else if model {
				others++
			}
		}
	}
	if answers < 500 || others < 500 {
		t.Errorf("the programs are too much alike: %d answers, %d models that are none", answers, others)
	}
}

// hasUnfounded tells whether a part of the set of a number is unfounded.
func hasUnfounded(p impl.Prog, num int) bool {
	for part := 1; part <= num; part++ {
		if part&^num == 0 && impl.IsUnfounded(p, impl.SetOf(num), impl.SetOf(part)) {
			return true
		}
	}
	return false
}

// TestTightAnswersAreSupported: of a tight program a set is an answer just where it is a supported model; of another one each answer is such a model, but not each such model an answer.
func TestTightAnswersAreSupported(t *testing.T) {
	from := rand.New(rand.NewSource(24))
	answers, models, apart := 0, 0, 0
	for range 3000 {
		p := someWhole(from, 1+from.Intn(5))
		folded, _ := impl.Fold(p)
		tight := impl.Tight(p)
		for num := range 1 << p.Atoms {
			x := impl.SetOf(num)
			is, model := impl.Answer(p, x), impl.Model(folded, x)
			like := model && impl.Supported(p, x)
			if is && !like || tight && is != like {
				t.Fatalf("Answer(%+v, %v) is %v, but it is a supported model: %v", p, x, is, like)
			}
			if like && !is {
				apart++
			}
			if tight && is {
				answers++
			} else if tight && model {
				models++
			}
		}
	}
	if answers < 500 || models < 500 || apart < 50 {
		t.Errorf("the programs are too much alike: %d answers and %d other models of tight ones, %d supported models that are no answers", answers, models, apart)
	}
}

// supportable are programs, and what is none, with loops, for calls that must leave them as they are.
func supportable() []impl.Prog {
	return append(answerable(),
		impl.Prog{Atoms: 12, Rules: loop(1, 12, 3, 5)},
		impl.Prog{Atoms: 5, Rules: append(loop(4, 2), weighedChoice([]int{1, 3, 5}, 2, wl(1, 2), wl(2, 1), wl(-3, 1))), Exts: []impl.Ext{{Atom: 5}}, Assume: []int{-2}},
	)
}

func TestSupportArgumentsAreKept(t *testing.T) {
	for _, made := range supportable() {
		keeping(t, "Edges", withSpare(made), func(p impl.Prog) { impl.Edges(p) })
		keeping(t, "Comps", withSpare(made), func(p impl.Prog) { impl.Comps(p) })
		keeping(t, "Tight", withSpare(made), func(p impl.Prog) { impl.Tight(p) })
		for i, x := range lists {
			u := lists[(i+5)%len(lists)]
			list, other := withSpare(x), withSpare(u)
			keeping(t, "Supported", withSpare(made), func(p impl.Prog) { impl.Supported(p, list) })
			keeping(t, "Unfounded", withSpare(made), func(p impl.Prog) { impl.Unfounded(p, list) })
			keeping(t, "Broken", withSpare(made), func(p impl.Prog) { impl.Broken(p, list) })
			keeping(t, "IsUnfounded", withSpare(made), func(p impl.Prog) { impl.IsUnfounded(p, list, other) })
			checkKept(t, "a call of chapter 6", list, x)
			checkKept(t, "IsUnfounded", other, u)
		}
	}
}

func TestSupportSpareIsNotRead(t *testing.T) {
	for _, made := range supportable() {
		p := withSpare(made)
		if !alike(impl.Edges(p), impl.Edges(made)) || !alike(impl.Comps(p), impl.Comps(made)) || impl.Tight(p) != impl.Tight(made) {
			t.Errorf("the room behind the lists of %+v is read", made)
		}
		for i, x := range lists {
			u := lists[(i+5)%len(lists)]
			list := withSpare(x)
			if impl.Supported(p, list) != impl.Supported(made, x) || impl.IsUnfounded(p, list, withSpare(u)) != impl.IsUnfounded(made, x, u) ||
				impl.IsUnfounded(p, withSpare(u), list) != impl.IsUnfounded(made, u, x) {
				t.Errorf("the room behind the lists of %+v, %v or %v is read", made, x, u)
			}
			if !alike(impl.Unfounded(p, list), impl.Unfounded(made, x)) || !alike(impl.Broken(p, list), impl.Broken(made, x)) {
				t.Errorf("the room behind the lists of %+v or %v is read", made, x)
			}
		}
	}
}

func TestSupportAnswersAreNew(t *testing.T) {
	for _, made := range supportable() {
		p := withSpare(made)
		edges, comps := impl.Edges(p), impl.Comps(p)
		checkApart(t, "Edges and Comps", p, edges, comps, impl.Edges(p), impl.Comps(p))
		handsOutNothing(t, "Edges", reflect.ValueOf(edges))
		handsOutNothing(t, "Comps", reflect.ValueOf(comps))
		for _, x := range lists {
			list := withSpare(x)
			unfounded, broken := impl.Unfounded(p, list), impl.Broken(p, list)
			checkApart(t, "Unfounded and Broken", p, list, unfounded, broken, impl.Unfounded(p, list), impl.Broken(p, list))
			handsOutNothing(t, "Unfounded", reflect.ValueOf(unfounded))
			handsOutNothing(t, "Broken", reflect.ValueOf(broken))
		}
	}
	ring := impl.Prog{Atoms: 4, Rules: loop(1, 2, 3)}
	for _, s := range impl.Comps(ring) {
		overwrite(s.A, -1)
	}
	overwrite(impl.Unfounded(ring, []int{1, 2}), -1)
	overwrite(impl.Broken(ring, []int{2, 4}), -1)
	checkGraph(t, "where a comp is written into", ring, "1>2 2>3 3>1", []string{"1 2 3", "4"}, false)
	checkUnfounded(t, "where one is written into", ring, []int{1, 2}, "1 2")
	checkBroken(t, "where one is written into", ring, []int{2, 4}, "0")
}
