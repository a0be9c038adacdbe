package tests

import (
	"math"
	"math/rand"
	"reflect"
	"slices"
	"strconv"
	"strings"
	"testing"

	"loop.example/g00554/impl"
)

// reasonsOf are the Reasons of a text: an Atom and a Rule with a : between for each, as reasonsText tells them.
func reasonsOf(text string) []impl.Reason {
	var list []impl.Reason
	for _, word := range strings.Fields(text) {
		atom, rule, _ := strings.Cut(word, ":")
		a, _ := strconv.Atoi(atom)
		r, _ := strconv.Atoi(rule)
		list = append(list, impl.Reason{Atom: a, Rule: r})
	}
	return list
}

func reasonsText(list []impl.Reason) string {
	words := make([]string, 0, len(list))
	for _, why := range list {
		words = append(words, strconv.Itoa(why.Atom)+":"+strconv.Itoa(why.Rule))
	}
	return strings.Join(words, " ")
}

// checkWhy fails where Why is another one, or where it is taken for right though it lacks an atom of x, or not though it lacks none.
func checkWhy(t *testing.T, name string, p impl.Prog, x []int, want string) {
	t.Helper()
	got := impl.Why(p, x)
	if reasonsText(got) != want {
		t.Errorf("%s: Why(%+v, %v) = %q, not %q", name, p, x, reasonsText(got), want)
	}
	checkReasons(t, name, p, x, want, len(reasonsOf(want)) == len(x))
}

func checkReasons(t *testing.T, name string, p impl.Prog, x []int, list string, want bool) {
	t.Helper()
	if impl.Reasons(p, x, reasonsOf(list)) != want {
		t.Errorf("%s: Reasons(%+v, %v, %q) is not %v", name, p, x, list, want)
	}
}

func checkAgainst(t *testing.T, name string, p impl.Prog, x []int, kind int, want string) {
	t.Helper()
	if got, list := impl.Against(p, x); got != kind || textOf(list) != want {
		t.Errorf("%s: Against(%+v, %v) = %d, %v, not %d, %q", name, p, x, got, list, kind, want)
	}
}

type whyCase struct {
	name  string
	rules []impl.Rule
	x     []int
	want  string
}

// checkWhys asks of programs of five atoms.
func checkWhys(t *testing.T, cases []whyCase) {
	t.Helper()
	for _, c := range cases {
		checkWhy(t, c.name, impl.Prog{Atoms: 5, Rules: c.rules}, c.x, c.want)
	}
}

// TestWhyByRules: heads without Choice, of rules without Weight.
func TestWhyByRules(t *testing.T) {
	circle := loop(1, 2)
	checkWhys(t, []whyCase{
		{"no rules and no atoms", nil, nil, ""},
		{"no rules", nil, []int{1, 5}, ""},
		{"the empty set", []impl.Rule{plain(1), plain(2, -1)}, nil, ""},
		{"a fact", []impl.Rule{plain(3)}, []int{3}, "3:0"},
		{"a fact that is not in x", []impl.Rule{plain(3), plain(4)}, []int{4}, "4:1"},
		{"facts, the least atom first", []impl.Rule{plain(3), plain(1), plain(2)}, []int{1, 2, 3}, "1:1 2:2 3:0"},
		{"an answer", either(1, 2), []int{2}, "2:1"},
		{"the other answer", either(1, 2), []int{1}, "1:0"},
		{"no model, of both", either(1, 2), []int{1, 2}, ""},
		{"no model, of all its atoms", []impl.Rule{plain(1), constraint(1)}, []int{1}, "1:0"},
		{"no model, a fact lacks", []impl.Rule{plain(1), plain(2, 1)}, []int{2}, ""},
		{"a model that is no answer", circle, []int{1, 2}, ""},
		{"a model, half of it with reasons", with(circle, plain(4), plain(5, 4)), []int{1, 2, 4, 5}, "4:2 5:3"},
		{"a model, half of it with a reason between", with(circle, plain(4, -5), plain(3, 1)), []int{1, 2, 3, 4}, "4:2"},
		{"half of a circle", circle, []int{1}, ""},
		{"its own body", loop(1), []int{1}, ""},
		{"its own body, and another one", []impl.Rule{plain(1, 1), plain(1)}, []int{1}, "1:1"},
		{"a circle with a way in", with(circle, plain(2, -3)), []int{1, 2}, "2:2 1:0"},
		{"a circle with a way in that x closes", with(circle, plain(2, -3)), []int{1, 2, 3}, ""},

		{"the least of several rules", []impl.Rule{plain(2), plain(1, 2), plain(1), plain(1, -3), plain(2, 1)}, []int{1, 2}, "1:2 2:0"},
		{"the least that holds then", []impl.Rule{plain(3, 1, 2), plain(3, 2), plain(3, 1), plain(2, 3), plain(1)}, []int{1, 2, 3}, "1:4 3:2 2:3"},
		{"the same rule twice", []impl.Rule{plain(2, 3), plain(1, 2), plain(1, -2), plain(1, -2)}, []int{1}, "1:2"},
		{"the least holds in x alone", []impl.Rule{plain(1, 2), plain(1), plain(2, 1)}, []int{1, 2}, "1:1 2:2"},
		{"the last of all", []impl.Rule{plain(1, 2), plain(1, -1), plain(2, 1), constraint(3), plain(1, -3)}, []int{1, 2}, "1:4 2:2"},

		{"behind a greater one", []impl.Rule{plain(1, 2), plain(2)}, []int{1, 2}, "2:1 1:0"},
		{"again the least", []impl.Rule{plain(1, 5), plain(2), plain(3, 1), plain(5, 2), plain(4)}, []int{1, 2, 3, 4, 5}, "2:1 4:4 5:3 1:0 3:2"},
		{"from the greatest down", []impl.Rule{plain(1, 2), plain(2, 3), plain(3, 4), plain(4, 5), plain(5)}, []int{1, 2, 3, 4, 5}, "5:4 4:3 3:2 2:1 1:0"},
		{"from the least up", []impl.Rule{plain(5, 4), plain(4, 3), plain(3, 2), plain(2, 1), plain(1)}, []int{1, 2, 3, 4, 5}, "1:4 2:3 3:2 4:1 5:0"},
		{"the least at once where there are more", []impl.Rule{plain(1, 3), plain(2, 3), plain(3), plain(4), plain(5)}, []int{1, 2, 3, 4, 5}, "3:2 1:0 2:1 4:3 5:4"},
		{"there and back", []impl.Rule{plain(3), plain(1, 4), plain(4, 2), plain(2, 3), plain(5, 1)}, []int{1, 2, 3, 4, 5}, "3:0 2:3 4:2 1:1 5:4"},

		{"above 0 is there", []impl.Rule{plain(1), plain(2, 1)}, []int{1, 2}, "1:0 2:1"},
		{"above 0 would be made, and is not in x", []impl.Rule{plain(1), plain(2, 1)}, []int{2}, ""},
		{"above 0 in x alone", []impl.Rule{plain(2, 1)}, []int{1, 2}, ""},
		{"one of two above 0", []impl.Rule{plain(1), plain(3, 1, 2)}, []int{1, 2, 3}, "1:0"},
		{"below 0 and not in x", []impl.Rule{plain(1, -2, -5)}, []int{1}, "1:0"},
		{"below 0 and in x, though not there yet", []impl.Rule{plain(1, -2), plain(2)}, []int{1, 2}, "2:1"},
		{"below 0 and in x, and never there", []impl.Rule{plain(1, -2)}, []int{1, 2}, ""},
		{"below 0 and made, but not in x", []impl.Rule{plain(2), plain(1, -2)}, []int{1}, "1:1"},
		{"itself below 0", []impl.Rule{plain(1, -1)}, []int{1}, ""},
		{"both literals of an atom", []impl.Rule{plain(2), plain(1, 2, -2)}, []int{1, 2}, "2:0"},
		{"both literals of an atom that is not in x", []impl.Rule{plain(2), plain(1, 2, -2)}, []int{1}, ""},
		{"a literal twice", []impl.Rule{plain(2), plain(1, 2, 2)}, []int{1, 2}, "2:0 1:1"},
		{"rules without a head have numbers", []impl.Rule{constraint(), plain(1), constraint(1), plain(2, 1)}, []int{1, 2}, "1:1 2:3"},
		{"rules without a head alone", []impl.Rule{constraint(), constraint(-1)}, []int{1}, ""},
	})
}

func TestWhyByChoice(t *testing.T) {
	some := []impl.Rule{choice([]int{1, 3, 4})}
	checkWhys(t, []whyCase{
		{"no head in x", some, nil, ""},
		{"one head in x", some, []int{3}, "3:0"},
		{"all heads in x", some, []int{1, 3, 4}, "1:0 3:0 4:0"},
		{"what is no head", some, []int{1, 2, 4, 5}, "1:0 4:0"},
		{"a body that is there behind the least head", []impl.Rule{choice([]int{1, 2}, 3), plain(3)}, []int{1, 2, 3}, "3:1 1:0 2:0"},
		{"a body that is not in x", []impl.Rule{choice([]int{1, 2}, 3), plain(3)}, []int{1, 2}, ""},
		{"its own head in the body", []impl.Rule{choice([]int{1, 2}, 1)}, []int{1, 2}, ""},
		{"its own head in the body, by another rule", []impl.Rule{choice([]int{1, 2}, 1), plain(1)}, []int{1, 2}, "1:1 2:0"},
		{"one head below 0, not in x", []impl.Rule{choice([]int{1, 2}, -2)}, []int{1}, "1:0"},
		{"one head below 0, in x", []impl.Rule{choice([]int{1, 2}, -2)}, []int{1, 2}, ""},
		{"the least of rules with Choice and without", []impl.Rule{choice([]int{2, 3}), plain(3), plain(1), choice([]int{1, 2})}, []int{1, 2, 3}, "1:2 2:0 3:0"},
		{"the last head", []impl.Rule{choice([]int{1, 2, 3, 4, 5}, 5), choice([]int{1, 3, 5})}, []int{1, 2, 3, 4, 5}, "1:1 3:1 5:1 2:0 4:0"},
	})
}

func TestWhyByWeights(t *testing.T) {
	row := []impl.WLit{wl(2, 2), wl(-3, 1)}
	steps := []impl.Rule{weighed([]int{3}, 3, wl(1, 1), wl(2, 2)), weighed([]int{2}, 1, wl(1, 1), wl(3, 5)), plain(1)}
	checkWhys(t, []whyCase{
		{"Bound below 0", []impl.Rule{weighed([]int{1}, -1, row...)}, []int{1, 3}, "1:0"},
		{"Bound 0", []impl.Rule{weighed([]int{1}, 0, row...)}, []int{1, 3}, "1:0"},
		{"Bound 0 of nothing", []impl.Rule{weighed([]int{1}, 0)}, []int{1}, "1:0"},
		{"Bound 0 of its own head", []impl.Rule{weighed([]int{1}, 0, wl(1, 1))}, []int{1}, "1:0"},
		{"Bound 1 of nothing", []impl.Rule{weighed([]int{1}, 1)}, []int{1}, ""},
		{"Bound 0 with Choice", []impl.Rule{weighedChoice([]int{2, 4}, 0, wl(3, 1)), weighed([]int{1}, -5)}, []int{1, 2, 4}, "1:1 2:0 4:0"},
		{"the one below 0", []impl.Rule{weighed([]int{1}, 1, row...)}, []int{1}, "1:0"},
		{"the one below 0, in x", []impl.Rule{weighed([]int{1}, 1, row...)}, []int{1, 3}, ""},
		{"the one above 0, in x alone", []impl.Rule{weighed([]int{1}, 2, row...)}, []int{1, 2}, ""},
		{"the one above 0, there", []impl.Rule{weighed([]int{1}, 2, row...), plain(2)}, []int{1, 2}, "2:1 1:0"},
		{"both", []impl.Rule{weighed([]int{1}, 3, row...), plain(2)}, []int{1, 2}, "2:1 1:0"},
		{"both needed, one in x", []impl.Rule{weighed([]int{1}, 3, row...), plain(2), plain(3)}, []int{1, 2, 3}, "2:1 3:2"},
		{"Bound above the sum", []impl.Rule{weighed([]int{1}, 4, row...), plain(2)}, []int{1, 2}, "2:1"},
		{"itself and no need of it", []impl.Rule{weighed([]int{1}, 1, wl(1, 5), wl(-2, 1))}, []int{1}, "1:0"},
		{"itself alone", []impl.Rule{weighed([]int{1}, 1, wl(1, 5))}, []int{1}, ""},
		{"step by step", steps, []int{1, 2, 3}, "1:2 2:1 3:0"},
		{"a literal twice", []impl.Rule{weighed([]int{1}, 4, wl(2, 2), wl(2, 2)), plain(2)}, []int{1, 2}, "2:1 1:0"},
		{"with enough of them there", []impl.Rule{weighed([]int{1}, 2, wl(2, 1), wl(3, 1), wl(4, 1)), plain(2), plain(3), plain(4)}, []int{1, 2, 3, 4}, "2:1 3:2 1:0 4:3"},
		{"with Choice, enough of them there", []impl.Rule{weighedChoice([]int{1, 2}, 3, wl(3, 1), wl(4, 2)), choice([]int{3, 4})}, []int{1, 2, 3, 4}, "3:1 4:1 1:0 2:0"},
	})
}

// TestWhyOfExtsAndAssume: what Fold adds has the numbers behind the rules, first those of external atoms, then those of what is assumed.
func TestWhyOfExtsAndAssume(t *testing.T) {
	rules := []impl.Rule{plain(3, 1), constraint(3, -2)}
	headed := with(rules, plain(1, 3))
	for _, c := range []struct {
		name   string
		rules  []impl.Rule
		exts   []impl.Ext
		assume []int
		x      []int
		why    string
		kind   int
		list   string
	}{
		{"V 0, an answer with it but for a constraint", rules, []impl.Ext{{Atom: 1}}, nil, []int{1, 3}, "1:2 3:0", 1, "1"},
		{"V 0, without it", rules, []impl.Ext{{Atom: 1}}, nil, nil, "", 0, ""},
		{"V 1", rules, []impl.Ext{{Atom: 1, V: 1}}, nil, []int{1, 3}, "1:2 3:0", 1, "1"},
		{"V 1, without it", rules, []impl.Ext{{Atom: 1, V: 1}}, nil, nil, "", 1, "2"},
		{"V 2", rules, []impl.Ext{{Atom: 1, V: 2}}, nil, []int{1, 3}, "", 1, "1"},
		{"V 2, without it", rules, []impl.Ext{{Atom: 1, V: 2}}, nil, nil, "", 0, ""},
		{"two", rules, []impl.Ext{{Atom: 1}, {Atom: 2, V: 1}}, nil, []int{1, 2, 3}, "1:2 2:3 3:0", 0, ""},
		{"two, the first not there", rules, []impl.Ext{{Atom: 1}, {Atom: 2, V: 1}}, nil, []int{2}, "2:3", 0, ""},
		{"two, of which the first is no rule", rules, []impl.Ext{{Atom: 1, V: 2}, {Atom: 2}}, nil, []int{2}, "2:2", 0, ""},
		{"two, the second not there", rules, []impl.Ext{{Atom: 1}, {Atom: 2, V: 1}}, nil, []int{1, 3}, "1:2 3:0", 1, "1"},
		{"a head with V 1", headed, []impl.Ext{{Atom: 1, V: 1}, {Atom: 2, V: 1}}, nil, []int{1, 2, 3}, "2:3", 2, "1 3"},
		{"a head with V 0", headed, []impl.Ext{{Atom: 1}}, nil, nil, "", 0, ""},
		{"assumed", rules, nil, []int{1, -2, 3}, []int{2}, "", 1, "2"},
		{"assumed, the second", rules, nil, []int{-1, -2, -3}, []int{2}, "", 1, "3"},
		{"assumed, the third", rules, nil, []int{-1, 2, 3}, []int{2}, "", 1, "4"},
		{"assumed, and nothing broken", rules, nil, []int{2, -1}, []int{2}, "", 2, "2"},
		{"external and assumed", rules, []impl.Ext{{Atom: 1, V: 1}, {Atom: 2}}, []int{3, 2}, []int{1, 2, 3}, "1:2 2:3 3:0", 0, ""},
		{"external and assumed, broken", rules, []impl.Ext{{Atom: 1, V: 1}, {Atom: 2}}, []int{3, -2}, []int{1, 2, 3}, "1:2 2:3 3:0", 1, "5"},
		{"assumed, one literal twice", nil, nil, []int{-1, 2, 2}, nil, "", 1, "1"},
	} {
		p := impl.Prog{Atoms: 3, Rules: c.rules, Exts: c.exts, Assume: c.assume}
		checkWhy(t, c.name, p, c.x, c.why)
		checkAgainst(t, c.name, p, c.x, c.kind, c.list)
	}
	p := impl.Prog{Atoms: 3, Rules: rules, Exts: []impl.Ext{{Atom: 1}, {Atom: 2, V: 1}}, Assume: []int{2, 3}}
	for _, c := range []struct {
		list string
		want bool
	}{
		{"1:2 2:3 3:0", true}, {"1:2 3:0 2:3", true}, {"2:3 1:2 3:0", true}, {"2:3 3:0 1:2", false},
		{"1:3 2:2 3:0", false}, {"1:2 2:4 3:0", false}, {"1:2 2:5 3:0", false}, {"1:2 2:6 3:0", false}, {"1:2 2:1 3:0", false},
	} {
		checkReasons(t, "rules that Fold adds", p, []int{1, 2, 3}, c.list, c.want)
	}
}

// TestReasons: rule 1 gives 2 where 1 is there, rule 2 where 3 is there, rule 3 where 4 is not in x.
func TestReasons(t *testing.T) {
	rules := []impl.Rule{plain(1), plain(2, 1), plain(2, 3), plain(2, -4), choice([]int{1, 3}, 2), plain(3, 1, 2), constraint(4), plain(4)}
	for _, c := range []struct {
		name string
		x    []int
		list string
		want bool
	}{
		{"what Why gives", []int{1, 2, 3}, "1:0 2:1 3:4", true},
		{"another order", []int{1, 2, 3}, "2:3 1:0 3:4", true},
		{"one more", []int{1, 2, 3}, "2:3 3:4 1:0", true},
		{"the greatest first", []int{1, 2, 3}, "3:4 2:3 1:0", false},
		{"an order in which a body does not hold", []int{1, 2, 3}, "2:1 1:0 3:4", false},
		{"an order in which the last body does not hold", []int{1, 2, 3}, "1:0 3:4 2:3", false},
		{"a rule that is not the least", []int{1, 2, 3}, "1:0 2:3 3:4", true},
		{"another rule that is not the least", []int{1, 2, 3}, "1:0 2:1 3:5", true},
		{"the greatest rules", []int{1, 2, 3}, "2:3 1:4 3:5", true},
		{"the greatest rules, too early", []int{1, 2, 3}, "2:3 3:5 1:4", false},
		{"by a later Reason", []int{1, 2, 3}, "1:0 2:2 3:4", false},
		{"by its own", []int{1, 2, 3}, "1:4 2:3 3:4", false},
		{"a body that x closes", []int{1, 2, 4}, "1:0 2:3 4:7", false},
		{"a body that x leaves", []int{1, 2, 4}, "1:0 2:1 4:7", true},
		{"what is no model", []int{4}, "4:7", true},
		{"what is no model, and no fact", []int{2}, "2:3", true},

		{"one lacks at the end", []int{1, 2, 3}, "1:0 2:1", false},
		{"one lacks at the beginning", []int{1, 2, 3}, "2:3 3:4", false},
		{"none", []int{1}, "", false},
		{"one twice at the end", []int{1, 2, 3}, "1:0 2:1 3:4 3:4", false},
		{"one twice at the beginning", []int{1, 2, 3}, "1:0 1:0 2:1 3:4", false},
		{"one twice by another rule", []int{1, 2, 3}, "1:0 2:1 2:3 3:4", false},
		{"one twice for one that lacks", []int{1, 2, 3}, "1:0 2:1 2:3", false},
		{"of the empty set", nil, "", true},
		{"one of the empty set", nil, "1:0", false},
		{"an atom that is not in x", []int{1}, "1:0 2:1", false},
		{"an atom that is not in x, first", []int{2}, "1:0 2:1", false},
		{"an atom that is not in x for one that is", []int{1, 2}, "1:0 4:7", false},
		{"an atom above Atoms", []int{1}, "1:0 5:0", false},
		{"no atom", []int{1}, "1:0 0:0", false},
		{"an atom above MaxAtoms", []int{1}, "1:0 13:0", false},
		{"an atom below 0", []int{1}, "-1:0", false},
		{"an atom that would be another one in one word", []int{1}, "4294967297:0", false},
		{"an atom that would be another one in a bit", []int{1}, "65:0", false},
		{"the greatest number as an atom", []int{1}, "9223372036854775807:0", false},
		{"the least number as an atom", []int{1}, "-9223372036854775808:0", false},

		{"Rule below 0", []int{1}, "1:-1", false},
		{"as great as the number of rules", []int{1}, "1:8", false},
		{"the last rule", []int{4}, "4:7", true},
		{"far above", []int{1}, "1:4294967296", false},
		{"the greatest number", []int{1}, "1:9223372036854775807", false},
		{"the least number", []int{1}, "1:-9223372036854775808", false},
		{"Rule below 0 behind others", []int{1, 2}, "1:0 2:-1", false},
		{"no head", []int{1}, "1:7", false},
		{"no head, though the body holds", []int{1, 2}, "1:0 2:4", false},
		{"no head at all", []int{1}, "1:6", false},
		{"the head of another one", []int{1, 2}, "1:1 2:0", false},
	} {
		checkReasons(t, c.name, impl.Prog{Atoms: 4, Rules: rules}, c.x, c.list, c.want)
	}
}

// TestReasonsByWeights: rule 0 gives 1 with a body that needs enough of the others to be there.
func TestReasonsByWeights(t *testing.T) {
	for _, c := range []struct {
		name  string
		bound int
		list  string
		want  bool
	}{
		{"Bound below 0, first", -1, "1:0 2:1 3:1", true},
		{"Bound 0, first", 0, "1:0 2:1 3:1", true},
		{"Bound 1, first", 1, "1:0 2:1 3:1", true},
		{"Bound 2, first", 2, "1:0 2:1 3:1", false},
		{"Bound 2, behind W 3", 2, "3:1 1:0 2:1", true},
		{"Bound 3, behind W 2", 3, "2:1 1:0 3:1", true},
		{"Bound 4, behind W 2", 4, "2:1 1:0 3:1", false},
		{"Bound 4, behind W 3", 4, "3:1 1:0 2:1", true},
		{"Bound 5, behind W 3", 5, "3:1 1:0 2:1", false},
		{"Bound 6, behind both", 6, "3:1 2:1 1:0", true},
		{"Bound 7, behind both", 7, "3:1 2:1 1:0", false},
	} {
		rule := weighed([]int{1}, c.bound, wl(1, 90), wl(2, 2), wl(3, 3), wl(-4, 1), wl(-2, 90))
		p := impl.Prog{Atoms: 4, Rules: []impl.Rule{rule, choice([]int{2, 3})}}
		checkReasons(t, c.name, p, []int{1, 2, 3}, c.list, c.want)
		p.Rules[0] = weighedChoice([]int{1, 4}, c.bound, rule.Body...)
		checkReasons(t, c.name+", with Choice", p, []int{1, 2, 3}, c.list, c.want)
	}
}

func TestAgainst(t *testing.T) {
	row := []impl.WLit{wl(2, 2), wl(-3, 1)}
	some := []impl.Rule{plain(1), constraint(1), choice([]int{2, 3}), plain(3, 2, -4), constraint(-4), plain(2)}
	for _, c := range []struct {
		name  string
		rules []impl.Rule
		x     []int
		kind  int
		want  string
	}{
		{"no rules", nil, nil, 0, ""},
		{"no rules, all atoms", nil, []int{1, 2, 3, 4}, 2, "1 2 3 4"},
		{"an answer", either(1, 2), []int{1}, 0, ""},
		{"an answer of a choice", []impl.Rule{choice([]int{1, 3}), plain(4, 1, 3)}, []int{1, 3, 4}, 0, ""},
		{"the empty answer", loop(1, 2), nil, 0, ""},
		{"one rule is broken", either(1, 3), nil, 1, "0"},
		{"the last rule alone is broken", []impl.Rule{plain(1), choice([]int{2}), plain(3, 1)}, []int{1}, 1, "2"},
		{"several rules, the least", some, nil, 1, "0"},
		{"several rules, the least of others", some, []int{1}, 1, "1"},
		{"several rules, not the first", some[2:], []int{2}, 1, "1"},
		{"several rules, a constraint", some[2:], []int{1, 3}, 1, "2"},
		{"all rules", []impl.Rule{constraint(), plain(4), constraint(-2)}, nil, 1, "0"},
		{"a constraint of no literal", []impl.Rule{plain(1), constraint()}, []int{1}, 1, "1"},
		{"broken, and unfounded", []impl.Rule{plain(1, 2), constraint(2)}, []int{1, 2}, 1, "1"},
		{"broken, and all of it unfounded", []impl.Rule{constraint(2), plain(4), constraint(1)}, []int{1, 2}, 1, "0"},
		{"unfounded, all of it", loop(1, 2), []int{1, 2}, 2, "1 2"},
		{"unfounded, one of three", []impl.Rule{plain(1), plain(3, 1)}, []int{1, 2, 3}, 2, "2"},
		{"unfounded, and what hangs on it", with(loop(2, 3), plain(1), plain(4, 3)), []int{1, 2, 3, 4}, 2, "2 3 4"},
		{"unfounded, what needs itself not to be", []impl.Rule{plain(1, -1)}, []int{1}, 2, "1"},
		{"broken, what needs itself not to be", []impl.Rule{plain(1, -1)}, nil, 1, "0"},
		{"a circle with a way in", with(loop(1, 2), plain(2, -3)), []int{1, 2}, 0, ""},
		{"what is below 0 and there", []impl.Rule{plain(1, -2), choice([]int{2})}, []int{1, 2}, 2, "1"},
		{"a choice of what is not there", []impl.Rule{choice([]int{1, 2}), choice([]int{3}, -1)}, nil, 0, ""},
		{"a choice whose body does not hold", []impl.Rule{choice([]int{1, 2}, 3)}, []int{1}, 2, "1"},
		{"Bound below 0", []impl.Rule{weighed([]int{1}, -1, row...)}, []int{3}, 1, "0"},
		{"Bound 0, a constraint", []impl.Rule{plain(3), weighed(nil, 0, row...)}, []int{3}, 1, "1"},
		{"Bound 0, an answer", []impl.Rule{weighed([]int{1}, 0, row...)}, []int{1}, 0, ""},
		{"Bound above the sum", []impl.Rule{weighed([]int{1}, 2, wl(-2, 1))}, []int{1}, 2, "1"},
		{"Bound at the sum", []impl.Rule{weighed([]int{1}, 3, row...), choice([]int{2})}, []int{2}, 1, "0"},
	} {
		checkAgainst(t, c.name, impl.Prog{Atoms: 4, Rules: c.rules}, c.x, c.kind, c.want)
	}
}

// checkNoWhy fails where something is told of a program or a set of which there is nothing to tell.
func checkNoWhy(t *testing.T, name string, p impl.Prog, x []int) {
	t.Helper()
	if got := impl.Why(p, x); len(got) != 0 {
		t.Errorf("%s: Why of %v is %v", name, x, got)
	}
	if kind, list := impl.Against(p, x); kind != -1 || len(list) != 0 {
		t.Errorf("%s: Against of %v is %d, %v", name, x, kind, list)
	}
	var all []impl.Reason
	for _, a := range x {
		all = append(all, impl.Reason{Atom: a})
	}
	rising := deepCopy(all)
	slices.SortFunc(rising, func(a, b impl.Reason) int { return a.Atom - b.Atom })
	for _, list := range [][]impl.Reason{nil, {}, all, rising, slices.Compact(rising), reasonsOf("1:0"), reasonsOf("2:0"), reasonsOf("1:0 2:0"), reasonsOf("3:0 4:0")} {
		if impl.Reasons(p, x, list) {
			t.Errorf("%s: Reasons of %v is true of %v", name, x, list)
		}
	}
}

// TestWhyWantsASet: each set of atoms up to Atoms is an answer here, and by its own choice; a list that is none has nothing to tell.
func TestWhyWantsASet(t *testing.T) {
	p := impl.Prog{Atoms: 4, Rules: []impl.Rule{choice([]int{1, 2, 3, 4})}}
	for num := range 16 {
		x := impl.SetOf(num)
		var want []string
		for _, a := range x {
			want = append(want, strconv.Itoa(a)+":0")
		}
		checkWhy(t, "a set", p, x, strings.Join(want, " "))
		slices.Reverse(want)
		checkReasons(t, "a set, falling", p, x, strings.Join(want, " "), true)
		checkAgainst(t, "a set", p, x, 0, "")
	}
	for _, x := range [][]int{
		{5}, {1, 5}, {12}, {4, 12}, {1, 2, 3, 4, 5}, {13}, {1, 13}, {0}, {0, 1}, {-1}, {-1, 1}, {1, 0}, {1, -2}, {2, 1}, {4, 3, 2, 1},
		{1, 3, 2}, {1, 1}, {4, 4}, {1, 2, 2}, {1, 1, 2}, {1<<32 + 1}, {math.MinInt, 1}, {1, math.MaxInt}, {math.MinInt}, {math.MaxInt}, {65}, {257},
	} {
		checkNoWhy(t, "no set of atoms up to Atoms", p, x)
	}
	whole := impl.Prog{Atoms: 12, Rules: []impl.Rule{choice(impl.SetOf(4095))}}
	for _, x := range lists {
		if impl.SetOk(x, 12) {
			checkAgainst(t, "a list", whole, x, 0, "")
			checkReasons(t, "a list", whole, x, reasonsText(impl.Why(whole, x)), true)
		} else {
			checkNoWhy(t, "a list", whole, x)
		}
	}
}

func TestWhyOfNoAtoms(t *testing.T) {
	for _, c := range []struct {
		name string
		p    impl.Prog
		kind int
		list string
	}{
		{"the zero program", impl.Prog{}, 0, ""},
		{"empty lists", impl.Prog{Rules: []impl.Rule{}, Exts: []impl.Ext{}, Assume: []int{}}, 0, ""},
		{"constraints", impl.Prog{Rules: []impl.Rule{weighed(nil, 1), constraint(), weighed(nil, 0)}}, 1, "1"},
	} {
		for _, x := range [][]int{nil, {}} {
			checkWhy(t, c.name, c.p, x, "")
			checkAgainst(t, c.name, c.p, x, c.kind, c.list)
			checkReasons(t, c.name, c.p, x, "1:0", false)
			checkReasons(t, c.name, c.p, x, "0:0", false)
		}
		for _, x := range [][]int{{1}, {0}, {12}, {13}} {
			checkNoWhy(t, c.name, c.p, x)
		}
	}
}

func TestWhyOfMaxAtoms(t *testing.T) {
	all := impl.SetOf(4095)
	ring := impl.Prog{Atoms: 12, Rules: loop(all...)}
	checkWhy(t, "a ring of all", ring, all, "")
	checkAgainst(t, "a ring of all", ring, all, 2, textOf(all))
	checkAgainst(t, "a ring but for the first", ring, all[1:], 1, "0")
	checkAgainst(t, "a ring but for the last", ring, all[:11], 1, "11")
	chain := impl.Prog{Atoms: 12, Rules: append(ring.Rules[:11:11], plain(12))}
	down := "12:11 11:10 10:9 9:8 8:7 7:6 6:5 5:4 4:3 3:2 2:1 1:0"
	checkWhy(t, "a chain of all", chain, all, down)
	checkAgainst(t, "a chain of all", chain, all, 0, "")
	checkWhy(t, "a chain but for one", chain, without(all, []int{6}), "12:11 11:10 10:9 9:8 8:7 7:6")
	checkAgainst(t, "a chain but for one", chain, without(all, []int{6}), 1, "5")
	full := impl.Prog{Atoms: 12, Rules: with(times(58, choice(all, all...)), constraint(12, -12), choice(all))}
	checkWhy(t, "MaxRules rules, the last one", full, all, "1:59 2:59 3:59 4:59 5:59 6:59 7:59 8:59 9:59 10:59 11:59 12:59")
	checkReasons(t, "MaxRules rules, one more", full, []int{3}, "3:60", false)
	checkAgainst(t, "MaxRules rules", full, all, 0, "")
	limits := atLimits()
	limits.Exts, limits.Assume = nil, nil
	if !impl.ProgOk(limits) {
		t.Fatal("no program")
	}
	for num := range 4096 {
		checkToldOf(t, "at its limits", limits, limits.Rules, impl.SetOf(num))
	}
}

// TestWhyOfNoProgram: each would have something to tell, but for one change.
func TestWhyOfNoProgram(t *testing.T) {
	whole := wholeProg()
	whole.Rules = append(whole.Rules, plain(7))
	checkWhy(t, "without a change", whole, []int{1, 7}, "7:3")
	checkWhy(t, "without a change, of nothing", whole, nil, "")
	checkAgainst(t, "without a change", whole, nil, 1, "3")
	for name, change := range noProgs() {
		p := deepCopy(whole)
		change(&p)
		for num := range 512 {
			checkNoWhy(t, name, p, impl.SetOf(num))
		}
	}
	for _, p := range append(odd(), impl.Prog{Atoms: -1}, impl.Prog{Atoms: 13}, impl.Prog{Atoms: math.MinInt}, impl.Prog{Atoms: math.MaxInt}) {
		if !impl.ProgOk(p) {
			for _, x := range lists {
				checkNoWhy(t, "an odd program", p, x)
			}
		}
	}
}

// TestWhyAndRoom: with just MaxRules rules of Fold there is something to tell, with one more there is nothing, of the empty set as well.
func TestWhyAndRoom(t *testing.T) {
	for _, c := range []struct {
		name   string
		rules  int
		exts   []impl.Ext
		assume []int
		x      []int
		why    string
		kind   int
		list   string
	}{
		{"MaxRules rules", 60, nil, nil, []int{12}, "12:0", 0, ""},
		{"MaxRules rules, the last is broken", 59, nil, []int{1}, []int{12}, "12:0", 1, "59"},
		{"MaxRules rules with V 0", 59, []impl.Ext{{Atom: 1}}, nil, []int{1, 12}, "1:59 12:0", 0, ""},
		{"MaxRules rules with V 1", 59, []impl.Ext{{Atom: 1, V: 1}}, nil, []int{1, 12}, "1:59 12:0", 0, ""},
		{"V 2 is no rule", 60, []impl.Ext{{Atom: 1, V: 2}}, nil, []int{1, 12}, "12:0", 2, "1"},
		{"an external head is no rule", 60, []impl.Ext{{Atom: 12}}, nil, []int{12}, "12:0", 0, ""},
		{"MaxRules rules with what is assumed", 58, nil, []int{12, -1}, []int{1, 12}, "12:0", 1, "59"},
		{"MaxRules rules with both", 57, []impl.Ext{{Atom: 1, V: 1}}, []int{12, 1}, []int{1, 12}, "1:57 12:0", 0, ""},
		{"MaxRules rules with both, broken", 57, []impl.Ext{{Atom: 1, V: 1}}, []int{12, 1}, []int{12}, "12:0", 1, "57"},
	} {
		p := impl.Prog{Atoms: 12, Rules: times(c.rules, plain(12)), Exts: c.exts, Assume: c.assume}
		checkWhy(t, c.name, p, c.x, c.why)
		checkAgainst(t, c.name, p, c.x, c.kind, c.list)
		for _, more := range []impl.Prog{
			{Atoms: 12, Rules: append(times(c.rules, plain(12)), plain(12)), Exts: c.exts, Assume: c.assume},
			{Atoms: 12, Rules: times(c.rules, plain(12)), Exts: append([]impl.Ext{}, append(c.exts, impl.Ext{Atom: 11})...), Assume: c.assume},
			{Atoms: 12, Rules: times(c.rules, plain(12)), Exts: c.exts, Assume: append([]int{12}, c.assume...)},
		} {
			if _, ok := impl.Fold(more); ok {
				continue
			}
			for _, x := range [][]int{nil, {1}, {12}, {1, 12}, c.x} {
				checkNoWhy(t, c.name+", and one more", more, x)
			}
		}
	}
	for num := range 4096 {
		checkNoWhy(t, "a program at its limits", atLimits(), impl.SetOf(num))
	}
}

// whyBy is what the definition gives: the rules are those of Fold.
func whyBy(rules []impl.Rule, x []int) string {
	var list []impl.Reason
	var there []int
	for {
		found := false
		for _, a := range x {
			rule := slices.IndexFunc(rules, func(r impl.Rule) bool { return slices.Contains(r.Heads, a) && gives(r, there, x) })
			if rule >= 0 && !slices.Contains(there, a) {
				list, there, found = append(list, impl.Reason{Atom: a, Rule: rule}), append(there, a), true
				break
			}
		}
		if !found {
			return reasonsText(list)
		}
	}
}

// reasonsBy tells by the definition whether a list has the reasons of a set.
func reasonsBy(rules []impl.Rule, x []int, list []impl.Reason) bool {
	var atoms []int
	for _, why := range list {
		if why.Rule < 0 || why.Rule >= len(rules) || !slices.Contains(rules[why.Rule].Heads, why.Atom) || !gives(rules[why.Rule], atoms, x) {
			return false
		}
		atoms = append(atoms, why.Atom)
	}
	slices.Sort(atoms)
	return slices.Equal(atoms, x)
}

// againstBy is what is told against a set by the definitions, with what is unfounded told without Base: what no one reason behind the others puts there.
func againstBy(rules []impl.Rule, x []int) (int, string) {
	for i, r := range rules {
		if !modelIs([]impl.Rule{r}, x) {
			return 1, strconv.Itoa(i)
		}
	}
	left := x
	for _, why := range reasonsOf(whyBy(rules, x)) {
		left = without(left, []int{why.Atom})
	}
	if len(left) > 0 {
		return 2, textOf(left)
	}
	return 0, ""
}

// checkToldOf fails where what is told of a set is not what the definitions tell.
func checkToldOf(t *testing.T, name string, p impl.Prog, rules []impl.Rule, x []int) {
	t.Helper()
	checkWhy(t, name, p, x, whyBy(rules, x))
	kind, list := againstBy(rules, x)
	checkAgainst(t, name, p, x, kind, list)
}

// TestWhyOfMany: of many programs, with few atoms and with all, what the definitions tell.
func TestWhyOfMany(t *testing.T) {
	from := rand.New(rand.NewSource(54))
	whole, some, none, down := 0, 0, 0, 0
	kinds := map[int]int{}
	for range 1500 {
		p := someWhole(from, 1+from.Intn(12))
		if from.Intn(2) == 0 {
			p = someFree(from, 1+from.Intn(8))
		}
		folded, ok := impl.Fold(p)
		if !ok {
			t.Fatalf("%+v is not folded", p)
		}
		for range 60 {
			x := impl.SetOf(from.Intn(1 << p.Atoms))
			checkToldOf(t, "one of many", p, folded.Rules, x)
			why := impl.Why(p, x)
			switch {
			case len(x) < 2:
			case len(why) == 0:
				none++
			case len(why) < len(x):
				some++
			default:
				whole++
			}
			if !slices.IsSortedFunc(why, func(a, b impl.Reason) int { return a.Atom - b.Atom }) {
				down++
			}
			kind, _ := impl.Against(p, x)
			kinds[kind]++
		}
	}
	if whole < 2000 || some < 2000 || none < 2000 || down < 300 || kinds[0] < 1000 || kinds[1] < 1000 || kinds[2] < 1000 {
		t.Errorf("the programs are too much alike: %d sets with all reasons, %d with some, %d with none, %d not rising, against them %v", whole, some, none, down, kinds)
	}
}

// TestAllListsOfReasons: of programs of two or three atoms, and all x, each list of up to three Reasons.
func TestAllListsOfReasons(t *testing.T) {
	from := rand.New(rand.NewSource(55))
	right, wrong := 0, 0
	for i := range 48 {
		p := impl.Prog{Atoms: 2 + i%3/2}
		for range 5 - p.Atoms {
			r := someRule(from, p.Atoms)
			for len(r.Heads) == 0 || len(r.Body) > 3 {
				r = someRule(from, p.Atoms)
			}
			p.Rules = append(p.Rules, r)
		}
		if from.Intn(2) == 0 {
			p.Rules[from.Intn(len(p.Rules))] = choice([]int{1, 2})
		}
		folded, _ := impl.Fold(p)
		var all []impl.Reason
		for a := range p.Atoms + 2 {
			for rule := -1; rule <= len(folded.Rules); rule++ {
				all = append(all, impl.Reason{Atom: a, Rule: rule})
			}
		}
		for num := range 1 << p.Atoms {
			x := impl.SetOf(num)
			for n := range power(3, len(all)) {
				list := []impl.Reason{all[n%len(all)], all[n/len(all)%len(all)], all[n/len(all)/len(all)]}
				for size := range len(list) + 1 {
					if n >= power(size, len(all)) {
						continue
					}
					is := reasonsBy(folded.Rules, x, list[:size])
					if impl.Reasons(p, x, list[:size]) != is {
						t.Fatalf("Reasons(%+v, %v, %v) is not %v", p, x, list[:size], is)
					}
					if is {
						right++
					} else {
						wrong++
					}
				}
			}
		}
	}
	if right < 200 || wrong < 500000 {
		t.Errorf("the programs are too much alike: %d lists are right, %d are not", right, wrong)
	}
}

// changed is a list with one change, or with none, or in another order.
func changed(from *rand.Rand, list []impl.Reason, p impl.Prog) []impl.Reason {
	list = slices.Clone(list)
	if len(list) == 0 {
		return list
	}
	i, j := from.Intn(len(list)), from.Intn(len(list))
	switch from.Intn(8) {
	case 0:
		list = slices.Delete(list, i, i+1)
	case 1:
		list = slices.Insert(list, i, list[j])
	case 2, 3:
		list[i], list[j] = list[j], list[i]
	case 4:
		from.Shuffle(len(list), func(a, b int) { list[a], list[b] = list[b], list[a] })
	case 5:
		list[i].Atom = from.Intn(p.Atoms+3) - 1
	case 6:
		list[i].Rule = from.Intn(len(p.Rules)+3) - 1
	}
	return list
}

// TestReasonsOfMany: of many programs and sets, what Why gives and lists that are nearly so; where one is right, nothing of the set is unfounded, and a model is an answer.
func TestReasonsOfMany(t *testing.T) {
	from := rand.New(rand.NewSource(56))
	right, wrong, others, answers := 0, 0, 0, 0
	for range 4000 {
		p := someFree(from, 1+from.Intn(8))
		folded, ok := impl.Fold(p)
		if !ok {
			t.Fatalf("%+v is not folded", p)
		}
		for range 20 {
			x := impl.SetOf(from.Intn(1 << p.Atoms))
			why := impl.Why(p, x)
			list := changed(from, why, folded)
			is := reasonsBy(folded.Rules, x, list)
			if impl.Reasons(p, x, list) != is {
				t.Fatalf("Reasons(%+v, %v, %v) is not %v", p, x, list, is)
			}
			if !is {
				wrong++
				continue
			}
			right++
			if !slices.Equal(list, why) {
				others++
			}
			if len(impl.Unfounded(p, x)) != 0 {
				t.Fatalf("%v are reasons of %v by %+v, but %v is unfounded", list, x, p, impl.Unfounded(p, x))
			}
			if model := modelIs(folded.Rules, x); impl.Answer(p, x) != model {
				t.Fatalf("%v are reasons of %v by %+v, which is a model: %v, and an answer: %v", list, x, p, model, !model)
			} else if model {
				answers++
			}
		}
	}
	if right < 2000 || wrong < 2000 || others < 300 || answers < 1000 {
		t.Errorf("the lists are too much alike: %d are right, %d are not, %d are other ones than Why gives, %d of answers", right, wrong, others, answers)
	}
}

// TestModelsHaveReasonsWhereTheyAreAnswers: those that Why gives, which is right just where it tells of each atom.
func TestModelsHaveReasonsWhereTheyAreAnswers(t *testing.T) {
	from := rand.New(rand.NewSource(57))
	answers, models, others := 0, 0, 0
	for range 1500 {
		p := someWhole(from, 1+from.Intn(6))
		if from.Intn(2) == 0 {
			p = someFree(from, 1+from.Intn(6))
		}
		folded, _ := impl.Fold(p)
		listed := answersOfWhole(p)
		for num := range 1 << p.Atoms {
			x := impl.SetOf(num)
			why := impl.Why(p, x)
			is := impl.Reasons(p, x, why)
			model := impl.Model(folded, x)
			if (model && is) != slices.Contains(listed, num) || is != (len(why) == len(x)) {
				t.Fatalf("%v is a model of %+v: %v, and Why = %v right: %v, but the answers are %v", x, p, model, why, is, listed)
			}
			switch {
			case !model:
				others++
			case is:
				answers++
			default:
				models++
			}
		}
	}
	if answers < 1000 || models < 1000 || others < 1000 {
		t.Errorf("the programs are too much alike: %d answers, %d other models, %d other sets", answers, models, others)
	}
}

// TestWhatIsToldAgainstHolds: the rule is broken and none ahead of it; what is unfounded is so, of a model; nothing is told against an answer alone.
func TestWhatIsToldAgainstHolds(t *testing.T) {
	from := rand.New(rand.NewSource(58))
	kinds := map[int]int{}
	for range 1500 {
		p := someWhole(from, 1+from.Intn(6))
		if from.Intn(2) == 0 {
			p = someFree(from, 1+from.Intn(6))
		}
		folded, _ := impl.Fold(p)
		for num := range 1 << p.Atoms {
			x := impl.SetOf(num)
			kind, list := impl.Against(p, x)
			holds := false
			switch kind {
			case 0:
				holds = len(list) == 0 && impl.Answer(p, x)
			case 1:
				holds = len(list) == 1 && list[0] >= 0 && list[0] < len(folded.Rules) &&
					!impl.Model(impl.Prog{Atoms: p.Atoms, Rules: folded.Rules[list[0] : list[0]+1]}, x) &&
					impl.Model(impl.Prog{Atoms: p.Atoms, Rules: folded.Rules[:list[0]]}, x)
			case 2:
				holds = impl.Model(folded, x) && impl.SetIn(list, x) && impl.IsUnfounded(p, x, list) && unfoundedIs(folded.Rules, x, list)
			}
			if !holds || kind != 0 && impl.Answer(p, x) {
				t.Fatalf("Against(%+v, %v) = %d, %v, and Answer is %v", p, x, kind, list, impl.Answer(p, x))
			}
			kinds[kind]++
		}
	}
	if len(kinds) != 3 || kinds[0] < 1000 || kinds[1] < 1000 || kinds[2] < 1000 {
		t.Errorf("the programs are too much alike: %v", kinds)
	}
}

// TestWhyIsAlwaysTheSame: however often it is asked, by however many at once.
func TestWhyIsAlwaysTheSame(t *testing.T) {
	p := impl.Prog{Atoms: 5, Rules: []impl.Rule{plain(1, 5), plain(2), plain(3, 1), plain(5, 2), plain(4)}}
	ring := impl.Prog{Atoms: 4, Rules: loop(1, 2, 3)}
	byMany(50, func() {
		checkWhy(t, "again", p, []int{1, 2, 3, 4, 5}, "2:1 4:4 5:3 1:0 3:2")
		checkReasons(t, "again", p, []int{1, 2, 3, 4, 5}, "4:4 2:1 5:3 1:0 3:2", true)
		checkAgainst(t, "again", p, []int{2, 4}, 1, "3")
		checkAgainst(t, "again", ring, []int{1, 2, 3}, 2, "1 2 3")
	})
}

// reasonable are programs, and what is none, with sets that have reasons, for calls that must leave them as they are.
func reasonable() []impl.Prog {
	return append(supportable(),
		impl.Prog{Atoms: 12, Rules: []impl.Rule{choice(impl.SetOf(4095))}},
		impl.Prog{Atoms: 12, Rules: []impl.Rule{plain(1, 12), plain(12), choice([]int{2, 3, 5, 7, 11}, -1)}},
	)
}

func TestWhyArgumentsAreKept(t *testing.T) {
	for _, made := range reasonable() {
		for i, x := range lists {
			list := withSpare(x)
			keeping(t, "Why", withSpare(made), func(p impl.Prog) { impl.Why(p, list) })
			keeping(t, "Against", withSpare(made), func(p impl.Prog) { impl.Against(p, list) })
			for _, why := range [][]impl.Reason{nil, impl.Why(made, x), impl.Why(made, lists[(i+5)%len(lists)]), reasonsOf("13:0 1:99 -1:-1")} {
				reasons := withSpare(why)
				keeping(t, "Reasons", withSpare(made), func(p impl.Prog) { impl.Reasons(p, list, reasons) })
				keeping(t, "Reasons", reasons, func(reasons []impl.Reason) { impl.Reasons(made, x, reasons) })
				if !slices.Equal(reasons, why) {
					t.Errorf("Reasons: the argument %v has become %v", why, reasons)
				}
			}
			checkKept(t, "a call of chapter 12", list, x)
		}
	}
}

func TestWhySpareIsNotRead(t *testing.T) {
	for _, made := range reasonable() {
		p := withSpare(made)
		for _, x := range lists {
			list, why := withSpare(x), impl.Why(made, x)
			if !alike(impl.Why(p, list), why) || impl.Reasons(p, list, withSpare(why)) != impl.Reasons(made, x, why) {
				t.Errorf("the room behind the lists of %+v, %v or %v is read", made, x, why)
			}
			kind, against := impl.Against(made, x)
			checkAgainst(t, "with room behind the lists", p, list, kind, textOf(against))
		}
	}
	p := impl.Prog{Atoms: 3, Rules: []impl.Rule{plain(2), plain(1, 2), constraint(2)}[:2]}
	checkWhy(t, "an atom behind x", p, []int{2, 1}[:1], "2:0")
	checkAgainst(t, "a rule behind Rules", p, []int{1, 2, 3}[:2], 0, "")
	checkReasons(t, "a rule behind Rules", p, []int{1, 2}, "2:0 1:2", false)
	if impl.Reasons(p, []int{1, 2}, reasonsOf("2:0 1:1")[:1]) || !impl.Reasons(p, []int{1, 2}, reasonsOf("2:0 1:1 1:1")[:2]) {
		t.Error("what lies behind the length of the list of Reasons is read")
	}
}

func TestWhyAnswersAreNew(t *testing.T) {
	for _, made := range reasonable() {
		p := withSpare(made)
		all := []any{p}
		for range 2 {
			for _, x := range lists {
				list := withSpare(x)
				why := impl.Why(p, list)
				_, against := impl.Against(p, list)
				handsOutNothing(t, "Why", reflect.ValueOf(why))
				handsOutNothing(t, "Against", reflect.ValueOf(against))
				all = append(all, list, why, against)
			}
		}
		checkApart(t, "chapter 12", all...)
	}
	p := impl.Prog{Atoms: 3, Rules: []impl.Rule{plain(1), plain(3, 2), plain(2, 3)}}
	for range 2 {
		clear(impl.Why(p, []int{1}))
		for _, x := range [][]int{nil, {1, 2, 3}} {
			_, list := impl.Against(p, x)
			overwrite(list, -1)
		}
	}
	checkWhy(t, "where one is written into", p, []int{1}, "1:0")
	checkAgainst(t, "where one is written into", p, nil, 1, "0")
	checkAgainst(t, "where one is written into", p, []int{1, 2, 3}, 2, "2 3")
}
