package tests

import (
	"math"
	"math/rand"
	"reflect"
	"regexp"
	"slices"
	"strconv"
	"strings"
	"testing"

	"loop.example/g00554/impl"
)

func TestGroundLimits(t *testing.T) {
	got := []int{impl.MaxText, impl.MaxConsts, impl.MaxVars, impl.MaxArgs, impl.GrOK, impl.GrLong, impl.GrForm, impl.GrSafe, impl.GrMany}
	if !slices.Equal(got, []int{1500, 8, 4, 3, 0, 1, 2, 3, 4}) {
		t.Fatal(got)
	}
}

// nameAt is the name of an atom, or what tells that it has none.
func nameAt(names []string, a int) string {
	if a < 1 || a > len(names) {
		return "?" + strconv.Itoa(a)
	}
	return names[a-1]
}

// ruleByNames is a rule as the tests of this chapter write it: with no blank but behind not.
func ruleByNames(names []string, r impl.Rule) string {
	var heads, lits []string
	for _, a := range r.Heads {
		heads = append(heads, nameAt(names, a))
	}
	for _, w := range r.Body {
		if w.L < 0 {
			lits = append(lits, "not "+nameAt(names, -w.L))
		} else {
			lits = append(lits, nameAt(names, w.L))
		}
	}
	text := strings.Join(heads, ";")
	if r.Choice {
		text = "{" + text + "}"
	}
	if len(lits) > 0 || text == "" {
		text += ":-" + strings.Join(lits, ",")
	}
	return text + "."
}

func rulesByNames(g impl.Grounded) []string {
	var rules []string
	for _, r := range g.P.Rules {
		rules = append(rules, ruleByNames(g.Names, r))
	}
	return rules
}

// namedProg is a program of such rules that has nothing but what Ground gives it.
func namedProg(names []string, rules []impl.Rule) impl.Prog {
	p := impl.Prog{Atoms: len(names), Rules: rules}
	for i, name := range names {
		p.Shows = append(p.Shows, impl.Show{Text: name, Cond: []int{i + 1}})
	}
	return p
}

// checkGround fails where other names or rules come of a text, or anything else does. Both are written with a blank between each two.
func checkGround(t *testing.T, name, s, names, rules string) {
	t.Helper()
	g, place, code := impl.Ground(s)
	if place != 0 || code != impl.GrOK {
		t.Errorf("%s: Ground(%.300q) tells place %d, code %d", name, s, place, code)
		return
	}
	if got := strings.Join(g.Names, " "); got != names {
		t.Errorf("%s: of %.300q the Names are %q, not %q", name, s, got, names)
	}
	if got := strings.Join(rulesByNames(g), " "); got != rules {
		t.Errorf("%s: of %.300q the rules are %q, not %q", name, s, got, rules)
	}
	if !impl.ProgOk(g.P) || !alike(g.P, namedProg(g.Names, g.P.Rules)) {
		t.Errorf("%s: of %.300q comes %+v", name, s, g.P)
	}
	for _, r := range g.P.Rules {
		heads := len(r.Heads) <= 1 || r.Choice
		if !impl.SetOk(r.Heads, len(g.Names)) || !heads || r.Weight || r.Bound != 0 || slices.ContainsFunc(r.Body, func(w impl.WLit) bool { return w.W != 1 }) {
			t.Errorf("%s: of %.300q comes the rule %+v", name, s, r)
		}
	}
}

// checkNoGround fails where there is another fault, or something comes of the text.
func checkNoGround(t *testing.T, name, s string, place, code int) {
	t.Helper()
	g, at, got := impl.Ground(s)
	if at != place || got != code {
		t.Errorf("%s: Ground(%.300q) tells place %d, code %d, not %d, %d", name, s, at, got, place, code)
	}
	if !alike(g, impl.Grounded{}) {
		t.Errorf("%s: Ground(%.300q) tells a fault and %+v", name, s, g)
	}
}

// checkAt has texts with a sign ^ ahead of what is at fault, which is no part of them.
func checkAt(t *testing.T, code int, texts ...string) {
	t.Helper()
	for _, s := range texts {
		ahead, behind, marked := strings.Cut(s, "^")
		if !marked {
			t.Fatalf("%q has no sign ^", s)
		}
		checkNoGround(t, "at the sign ^", ahead+behind, len(ahead), code)
	}
}

func checkForm(t *testing.T, texts ...string) {
	t.Helper()
	checkAt(t, impl.GrForm, texts...)
}

func checkSafe(t *testing.T, texts ...string) {
	t.Helper()
	checkAt(t, impl.GrSafe, texts...)
}

func checkMany(t *testing.T, name, s string) {
	t.Helper()
	checkNoGround(t, name, s, 0, impl.GrMany)
}

type groundCase struct {
	name, s, names, rules string
}

func checkGrounds(t *testing.T, cases []groundCase) {
	t.Helper()
	for _, c := range cases {
		checkGround(t, c.name, c.s, c.names, c.rules)
	}
}

func TestGroundOfShortTexts(t *testing.T) {
	checkGrounds(t, []groundCase{
		{"nothing", "", "", ""},
		{"a blank", " ", "", ""},
		{"a line's end", "\n", "", ""},
		{"blanks and ends of lines", " \n\n  \n ", "", ""},
		{"a fact", "a.", "a", "a."},
		{"a fact with blanks", "\n a \n . \n", "a", "a."},
		{"a fact with one term", "p(a).", "p(a)", "p(a)."},
		{"a fact with three terms", "p(a,1,b).", "p(a,1,b)", "p(a,1,b)."},
		{"a fact with blanks everywhere", " p \n( \na , 1\n,b ) .", "p(a,1,b)", "p(a,1,b)."},
		{"a choice", "{a}.", "a", "{a}."},
		{"a choice of some", "{b;a;p(c)}.", "a b p(c)", "{a;b;p(c)}."},
		{"a choice with blanks", " { b ; a\n;p( c)}\n.", "a b p(c)", "{a;b;p(c)}."},
		{"a constraint", "a. :-a.", "a", "a. :-a."},
		{"a rule", "a. b:-a.", "a b", "a. b:-a."},
		{"a rule with a choice", "a. {b;c}:-a.", "a b c", "a. {b;c}:-a."},
		{"a rule with not", "{a}. b:-not a.", "a b", "{a}. b:-not a."},
		{"not of an atom with terms", "{p(a)}. b:-not p(a).", "b p(a)", "{p(a)}. b:-not p(a)."},
		{"a rule with blanks", "a.\n{\nb }:- \n a ,\nnot\nb .", "a b", "a. {b}:-a,not b."},
		{"no blank behind a rule", "a.b.c:-a,b.", "a b c", "a. b. c:-a,b."},
		{"rules in their order", "b. a. b. :-b. {a}.", "a b", "b. a. b. :-b. {a}."},
		{"a body in its order", "{a;b;c}. d:-c,not b,a,not a,c.", "a b c d", "{a;b;c}. d:-c,not b,a,not a,c."},
		{"variables", "p(a). p(b). q(X):-p(X).", "p(a) p(b) q(a) q(b)", "p(a). p(b). q(a):-p(a). q(b):-p(b)."},
		{"a head that its body asks for", "{a}. a:-a.", "a", "{a}. a:-a."},
	})
}

// TestGroundOfWords: names, numbers and variables are as long as may be.
func TestGroundOfWords(t *testing.T) {
	for _, name := range []string{"a", "z", "az", "aZ", "aAzZ09_", "a_", "a__", "a0", "a00", "abC_9", "no", "nott", "nota", "notA", "not_", "not1", "notnot", "nOt", "noT", "n", "o", "note", "aaaaaaaaaaaaaaaaaaaa"} {
		checkGround(t, "a name", name+".", name, name+".")
		checkGround(t, "a name in a choice", "{"+name+"}.", name, "{"+name+"}.")
		checkGround(t, "a name in a body", "{"+name+"}.:-"+name+".", name, "{"+name+"}. :-"+name+".")
		checkGround(t, "a name under not", "{"+name+"}.:-not "+name+".", name, "{"+name+"}. :-not "+name+".")
		checkGround(t, "a name ahead of a sign", ":-"+name+"<zz,"+name+"!=a1.", "", ":-.")
	}
	for _, word := range []string{"a", "aZ", "a_9", "nota", "not_", "0", "00", "9", "0123456789", "12345678901234567"} {
		fact := "p(" + word + ")."
		checkGround(t, "a constant", fact, "p("+word+")", fact)
		checkGround(t, "a constant put for a variable", fact+"q(X):-p(X).", "p("+word+") q("+word+")", fact+" q("+word+"):-p("+word+").")
	}
	for _, v := range []string{"X", "A", "Z", "Xy", "XY", "X1", "X_", "X__", "Not", "Xnot", "N", "X0aZ_"} {
		checkGround(t, "a variable", "p(a). p(b). q("+v+"):-p("+v+").", "p(a) p(b) q(a) q(b)", "p(a). p(b). q(a):-p(a). q(b):-p(b).")
	}
	checkGrounds(t, []groundCase{
		{"a name behind a number", "p(1,a1).", "p(1,a1)", "p(1,a1)."},
		{"a sign behind each word", "p(a).q(1):-p(X),X!=1,a<b.", "p(a) q(1)", "p(a). q(1):-p(a)."},
		{"variables that begin alike", "e(a,b). f(Xy,X):-e(X,Xy).", "e(a,b) f(b,a)", "e(a,b). f(b,a):-e(a,b)."},
		{"names that begin alike", "a. aa. aA. b:-aa,a,aA.", "a aA aa b", "a. aa. aA. b:-aa,a,aA."},
		{"a name that begins with not", "{nota}. b:-nota,not nota.", "b nota", "{nota}. b:-nota,not nota."},
		{"not with a line's end behind it", "{a}. b:-not\na.", "a b", "{a}. b:-not a."},
		{"not with blanks around it", "{a}. b:- not  a .", "a b", "{a}. b:-not a."},
	})
	checkForm(t, "^_.", "^_a.", "^1.", "^1a.", "^X.", "^Xa.", "^X1.", "^9(a).", "a. ^_.", "a. ^X.", "a. ^1.",
		"{^_}.", "{^1}.", "{^X}.", "{a;^X}.", "{a;^1}.", "{a;^_a}.",
		"p(^_).", "p(^_X).", "p(^_1).", "p(a,^_).", "p(1^a).", "p(1^X).", "p(1^_).", "p(0^x1).", "p(1 ^2).", "p(a ^b).", "p(a ^1).", "p(X ^1):-p(X).", "p(X ^a).", "p(1 ^a).",
		":-^_.", ":-^_<1.", ":-1^a.", ":-1^a<b.", ":-1^X<b.", ":-1^_<b.", ":-1<1^a.", ":-a<^_.", ":-1 ^2<3.", ":-X ^Y<3.", ":-not ^1.", ":-not ^X.", ":-not ^_.", ":-not ^1a.",
		"a ^b.", "a ^1.", "a1 ^1.", "a ^X.", "a^-b.", "a^-.", "p^-1.", "p(^-1).", "p(a^-1).", "p(^+1).", "p(1^.5).", "p(1^_000).")
}

func TestGroundOfNot(t *testing.T) {
	checkForm(t, "^not.", "^not a.", "^not(a).", "^not:-a.", "a. ^not.", " \n^not a.",
		"{^not}.", "{^not a}.", "{a;^not}.", "{a;^not b}.", "{a ^not}.", "{a} ^not.",
		"p(^not).", "p(a,^not).", "p(^not,a).", "p(^not a).", "p(a ^not).", ":-p(^not).", ":-p(a,^not).", ":-not p(^not).", "{p(^not)}.",
		":-not ^not.", ":-not ^not a.", ":-not ^not not a.", ":-a,not ^not b.", ":-a ^not b.", ":-p(a) ^not b.", ":-not a ^not b.", "a ^not.", "a ^not b.",
		":-X<^not.", ":-X!=^not,p(X).", ":-1<^not.", ":-a<^not.", ":-a!=^not.", ":-a ^not<b.", ":-1 ^not.", ":-X ^not.",
		":-not^.", ":-not^,a.", ":-not^(a).", ":-not^", ":-not ^", ":-not\n^.", ":-not^:-a.", ":-not^<a.", ":-not ^!=a.", ":-not^{a}.", ":-not ^{a}.", ":-not^;a.",
		":-not ^X<1.", ":-not ^1<2.", ":-not ^1!=2.", ":-not a^<b.", ":-not a ^<b.", ":-not a^!=b.", ":-not a ^!=b.", ":-not a^!b.", ":-not a^!", ":-not p(a)^<b.", ":-not p(a)^!=b.", ":-a,not b^<c.",
		":-not ^_.", ":-Not^.", ":-Not ^a.", "^Not.")
	checkGrounds(t, []groundCase{
		{"not where a lit begins", "{a}. :-not a. b:-a,not a,not b.", "a b", "{a}. :-not a. b:-a,not a,not b."},
		{"not as the beginning of a longer name", "nota(not_). not1:-nota(X),X!=notX.", "not1 nota(not_)", "nota(not_). not1:-nota(not_)."},
	})
}

func TestGroundOfRuleForms(t *testing.T) {
	checkGrounds(t, []groundCase{
		{"a head alone", "a.", "a", "a."},
		{"an empty head and lits", "{a}.:-a,not a.", "a", "{a}. :-a,not a."},
		{"a head and lits", "{a}.b:-a,not a.", "a b", "{a}. b:-a,not a."},
		{"a choice and lits", "{a}.{b;a}:-a,not a.", "a b", "{a}. {a;b}:-a,not a."},
	})
	checkForm(t, "^.", "a.^.", "a. ^.", " \n^.", ":-^.", ":- ^.", "a:-^.", "a:- ^.", "{a}:-^.", "a. :-^. b.",
		"a^", "a ^", "a\n\n ^", "{a}^", ":-^", ":- ^", "a:-^", "a:-b^", "a:-b,^", "a:-b, ^", "a:-b,not^", "a.b^", "a. b. c^",
		"a:-^,b.", "a:-b,^.", "a:-b,^,c.", "a:-b^;c.", "a:-b ^c.", "a:-b ^:-c.", "a:-b^}.", "a:-^{b}.", "a:-b,^{b}.", "a:-^:-b.", ":-^:-a.",
		"a^,b.", "a^;b.", "a^|b.", "a ^{b}.", "^,a.", "^;a.", "^(a).", "^).", "^-a.", "^<a.", "^!a.", "^!=a.", "^=a.", "^}.",
		"a^<b.", "a^!=b.", "a^=b.", "a. ^<b.", "p(a)^<b.", "^1<b.", "^X<b.", "a:^", "a:^.", "a:^b.", "a:^:-b.", "a :^ b.", "a :^ -b.", "a :^\n-b.", ":^", ":^ ", ":^ -a.", ":^a.", ":^1.", ":^_", ":^:", ":^.", "{a}:^.", "{a} :^ - b.", "a:-b ^:", "a:-b^:-")
	for _, s := range []string{"a:-b.", "a :- b ."} {
		checkGround(t, "what is never there", s, "", "")
	}
}

func TestGroundOfBraces(t *testing.T) {
	checkGrounds(t, []groundCase{
		{"one", "{a}.", "a", "{a}."},
		{"several", "{c;a;b}.", "a b c", "{a;b;c}."},
		{"the same one twice", "{a;a}.", "a", "{a}."},
		{"the same ones twice", "{b;a;b;a}.", "a b", "{a;b}."},
		{"the same one behind variables", "d(1).d(2).{p(X);p(Y)}:-d(X),d(Y).", "d(1) d(2) p(1) p(2)",
			"d(1). d(2). {p(1)}:-d(1),d(1). {p(1);p(2)}:-d(1),d(2). {p(1);p(2)}:-d(2),d(1). {p(2)}:-d(2),d(2)."},
		{"a variable beside what has none", "d(1).{a;p(X);p(1)}:-d(X).", "a d(1) p(1)", "d(1). {a;p(1)}:-d(1)."},
		{"MaxBody atoms", "{" + strings.Repeat("a;", 19) + "a}.", "a", "{a}."},
		{"MaxBody atoms, MaxAtoms that differ", "{" + strings.Repeat("a;", 8) + "b;c;d;e;f;g;h;i;j;k;l;a}.", "a b c d e f g h i j k l", "{a;b;c;d;e;f;g;h;i;j;k;l}."},
		{"MaxBody atoms in each of two rules", strings.Repeat("{"+strings.Repeat("a;", 19)+"a}.", 2), "a", "{a}. {a}."},
		{"MaxBody atoms and MaxBody lits", "{" + strings.Repeat("a;", 19) + "a}:-" + strings.Repeat("not b,", 19) + "not b.", "a", "{a}."},
	})
	checkForm(t, "{^}.", "{ \n^}.", "{^", "{ ^", "{^.", "{^;}.", "{^;a}.", "{a^", "{a^.", "{a ^", "{a;^", "{a; ^", "{a;^}.", "{a;^;b}.", "{a;^.", "{a^,b}.", "{a^:b}.", "{a^:-b}.", "{a ^b}.",
		"{^{a}}.", "{a;^{b}}.", "{a}^{b}.", "{a} ^b.", "{a}^;b.", "{a}^,b.", "{a}^}.", "{a}^", "{a} ^", "{a}^(b).", "{p(a)^(b)}.", "{p(a)^", "{p(a^}.", "{p(^}.", "{p^).", "a^}.", "a:-b^}.", "a:-^{b}.",
		"{a^!=b}.", "{a^<b}.", "{^1;a}.")
	full := "{" + strings.Repeat("a;", 20)
	checkForm(t, full+"^a}.", full+"^b}.", full+" \n^a;a}.", full+"^1}.", full+"^not}.", full+"^}.", full+"^", full+"^p(a,b,c,d)}.", full[:len(full)-2]+"p(a,b,c,^d);b}.",
		"{"+strings.Repeat("p(X);", 20)+"^p(X)}.", "a:-b. "+full+"^a}:-b.")
}

func TestGroundOfTerms(t *testing.T) {
	checkGrounds(t, []groundCase{
		{"an atom without and with terms", "p. p(a). p(a,a). p(a,a,a).", "p p(a) p(a,a) p(a,a,a)", "p. p(a). p(a,a). p(a,a,a)."},
		{"they are not one another", "p. q:-p(a). r:-p(a,a).", "p", "p."},
		{"MaxArgs terms in a body", "p(1,2,3). a:-p(X,2,Y),not q(X,Y,3).", "a p(1,2,3)", "p(1,2,3). a:-p(1,2,3)."},
	})
	checkForm(t, "p(^).", "p( ^).", "p(^", "p( ^", "p(^.", "p(^,a).", "p(a,^).", "p(a,^,b).", "p(a^", "p(a ^", "p(a,^", "p(a, \n^", "p(a^.", "p(a,^.", "p(a^;b).", "p(a^:-b).",
		"p(a^(b)).", "p(^(a)).", "p(a)^(b).", "p(a)^).", "p^).", "p(a)^,b.", "p(a) ^q(b).", "p(^{a}).", "p(a^}.", "p(a^!=b).", "p(a^<b).", "p(X^<b).", "p ^[a].", "p(a^]", "p(a)^",
		":-p(^).", ":-p(a,^).", ":-p(a^", ":-p(a^.", ":-p(a^<b).", ":-not p(^).", ":-not p(a^", "{p(^)}.", "{a;p(^)}.", "{p(a,^)}.",
		"p(a,b,c,^d).", "p(a,b,c,^1).", "p(a,b,c,^X).", "p(a,b,c, \n^d).", "p(1,2,3,^4,5).", "p(a,b,c,^not).", "p(a,b,c,^).", "p(a,b,c,^", "p(a,b,c,^.", "p(a,a,a,^a).", "p(X,X,X,^X):-p(X).",
		":-p(a,b,c,^d).", ":-not p(a,b,c,^d).", "{p(a,b,c,^d)}.", "{a;p(a,b,c,^d)}.", "a:-b,p(a,b,c,^d),c.", "p(a,b,c). p(a,b,c,^d).")
}

func TestGroundOfComparisons(t *testing.T) {
	checkGrounds(t, []groundCase{
		{"two names", ":-a<b.", "", ":-."},
		{"two names, unlike", ":-a!=b.", "", ":-."},
		{"blanks ahead of the sign", ":-a <b. :-a !=b. :-a\n<b. :-a \n != b.", "", ":-. :-. :-. :-."},
		{"blanks behind the sign", ":-a< b. :-a!= b. :-a<\n\nb.", "", ":-. :-. :-."},
		{"a number first", ":-1<b. :-1!=b.", "", ":-. :-."},
		{"a variable first", "p(a). :-X<b,p(X). :-X!=b,p(X).", "p(a)", "p(a). :-p(a). :-p(a)."},
		{"a variable last", "p(b). :-p(X),a<X. :-p(X),a!=X.", "p(b)", "p(b). :-p(b). :-p(b)."},
		{"a name first that is an atom, too", "{a}. :-a<b,a,not a.", "a", "{a}. :-a,not a."},
		{"an atom, then one that is not", "{a}. :-a,a<b.", "a", "{a}. :-a."},
		{"between lits", "{a;c}. b:-a,1<2,not c,3!=4,c.", "a b c", "{a;c}. b:-a,not c,c."},
		{"a comparison alone, with a head", "a:-1<2. {b}:-1!=2.", "a b", "a. {b}."},
		{"not true", ":-b<a. :-a<a. :-a!=a. a:-1<1. {a}:-1!=1.", "", ""},
		{"one of two not true", "a:-1<2,2<1. b:-2<1,1<2. c:-1<2,2<3.", "c", "c."},
		{"of numbers by their bytes", "a:-10<9. b:-9<10. c:-1<10. d:-10<1. e:-01<1. f:-1!=01. g:-2<10. h:-00!=0.", "a c e f h", "a. c. e. f. h."},
		{"of numbers and names", "a:-9<a. b:-a<9. c:-a!=9.", "a c", "a. c."},
		{"of names", "a:-a<aa. b:-aa<a. c:-aB<aa. d:-aa<aB.", "a c", "a. c."},
		{"of names with other bytes", "a:-a9<aA. b:-aZ<a_. c:-a_<aa. d:-aZ<b. e:-b<aZ.", "a b c d", "a. b. c. d."},
		{"of a name and a longer one", "a:-a<a0. b:-a<a_. c:-a0<a. d:-az<b.", "a b d", "a. b. d."},
		{"of two that are the same", "p(a). a:-p(X),X<X. b:-p(X),X!=X. c:-p(X),p(Y),X!=Y.", "p(a)", "p(a)."},
		{"of variables", "p(1). p(2). e(X,Y):-p(X),p(Y),X<Y.", "e(1,2) p(1) p(2)", "p(1). p(2). e(1,2):-p(1),p(2)."},
		{"of variables, unlike", "p(1). p(2). e(X,Y):-p(X),p(Y),X!=Y.", "e(1,2) e(2,1) p(1) p(2)", "p(1). p(2). e(1,2):-p(1),p(2). e(2,1):-p(2),p(1)."},
		{"ahead of what has the variables", "p(1). p(2). q(X):-X!=2,p(X).", "p(1) p(2) q(1)", "p(1). p(2). q(1):-p(1)."},
	})
	checkForm(t, ":-p(a)^!=b.", ":-p(a)^<b.", ":-p(a) ^<b.", ":-p(a)^!b.", ":-p(a)^=b.", "a:-b,p(a)^!=b.", ":-p(X)^<X.",
		":-a!^", ":-a !^", ":-a!^ ", ":-a!^.", ":-a!^ =b.", ":-a!^\n=b.", ":-a!^b.", ":-a!^!=b.", ":-a!^<b.", ":-a!^1", ":-a!^_", ":-1!^ =b.", ":-1!^", ":-X !^X.", ":-X!^", ":-1!^2.",
		":-a^=b.", ":-a ^= b.", ":-a^>b.", ":-1^=2.", ":-X^=Y.", ":-a<^=b.", ":-a< ^=b.", ":-a<^<b.", ":-a!=^=b.", ":-a<^>b.", ":-a^==b.", ":-^=b.", ":-^<b.", ":-^!=b.", ":-^!", ":-a,^<b.", ":-a,^!=b.",
		":-a<^", ":-a< ^", ":-a!=^", ":-a<^.", ":-a!=^.", ":-a<^,b.", ":-a<b^", ":-a<b,^", ":-a<b,^.", ":-a<b^<c.", ":-a<b^!=c.", ":-a!=b^<c.", ":-a<b ^c.", ":-a<b^;c.", ":-a<b^:-c.",
		":-a!=p^(b).", ":-a<p^(b).", ":-1<p^(b).", ":-a<^(b).", ":-a<^{b}.",
		":-1^.", ":-1 ^.", ":-X^.", ":-1^,a.", ":-X^,a.", ":-1^", ":-X ^", ":-X^(a).", ":-1^(a).", ":-X^:-a.", ":-1^}.", ":-a,1^.", ":-a,X^,b.")
}

// lits is so many lits, with , between and at last.
func lits(n int, lit string) string {
	return strings.Repeat(lit+",", n)
}

func TestGroundOfLongBodies(t *testing.T) {
	row := strings.Repeat("a,", 19) + "a."
	checkGrounds(t, []groundCase{
		{"MaxBody atoms", "{a}.:-" + lits(19, "a") + "a.", "a", "{a}. :-" + row},
		{"MaxBody atoms under not", "{a}.:-" + lits(19, "not a") + "not a.", "a", "{a}. :-" + lits(19, "not a") + "not a."},
		{"MaxBody atoms in each rule", "{a}.:-" + lits(19, "a") + "a.b:-" + lits(19, "a") + "a.", "a b", "{a}. :-" + row + " b:-" + row},
		{"MaxBody lits, comparisons among them", "{a}.:-" + lits(10, "a") + lits(9, "1<2") + "x!=y.", "a", "{a}. :-" + lits(9, "a") + "a."},
		{"MaxBody comparisons", ":-" + lits(19, "1<2") + "1<2.", "", ":-."},
		{"MaxBody lits of all kinds", "{a}.b:-" + lits(5, "a,not a,not c") + lits(4, "1!=2") + "a.", "a b", "{a}. b:-" + lits(5, "a,not a") + "a."},
	})
	full := "a:-" + lits(20, "a")
	checkForm(t, full+"^a.", full+" \n^a.", full+"^not a.", full+"^not.", full+"^1<2.", full+"^X<2.", full+"^x<y.", full+"^p(a).", full+"^p(a,b,c,d).", full+"^,", full+"^.", full+"^", full+"  ^", full+"^_", full+"^a,a.",
		"a:-"+lits(20, "1<2")+"^a.", "a:-"+lits(20, "1<2")+"^1<2.", "a:-"+lits(20, "not a")+"^not a.", "a:-"+lits(10, "a")+lits(10, "1<2")+"^3!=4.", "{a}:-"+lits(20, "a")+"^a.", ":-"+lits(20, "p(X)")+"^p(X).",
		"a:-"+lits(19, "a")+"a. b:-"+lits(20, "a")+"^a.", "a:-"+lits(19, "a")+"a^;", "a:-"+lits(19, "a")+"1^.")
}

// TestGroundOfBytes: of all bytes, each that has no place in any text is at fault wherever it stands.
func TestGroundOfBytes(t *testing.T) {
	const used = " \n.,;:-(){}!=<_"
	text := "p(a,1) :-q(X), X!=no1,\n3<Z_9, not r(Z_9) , q(Z_9).\n{noT;b}. :-c."
	foreign := 0
	for b := range 256 {
		c := string([]byte{byte(b)})
		if strings.Contains(used, c) || regexp.MustCompile(`^[0-9A-Za-z]$`).MatchString(c) {
			continue
		}
		foreign++
		checkNoGround(t, "that byte alone behind blanks", " \n"+c, 2, impl.GrForm)
		for i := range len(text) + 1 {
			checkNoGround(t, "a byte that may stand nowhere", text[:i]+c+text[i:], i, impl.GrForm)
		}
	}
	if foreign != 256-len(used)-62 {
		t.Errorf("%d bytes have no place", foreign)
	}
	checkForm(t, "^\t", "^\r", "^\ta.", "a^\t.", "a^\r\n.", "a.^\r\n", "a.^\t", "a. ^\tb.", "a:-not^\ta.", "a:^\t-b.", ":-a!^\r=b.", "p(^\ta).", "p(a^\r).", "a^\v.", "a^\f.", "^\ufeffa.", "a^\u00a0.", "a^ä.", "p(^ä).", "^é.", "a^\x00.", "^\x00", "a^%b.", "a.^% b", "p(^\"a\").", "p(^'a').")
}

func TestGroundOfLongTexts(t *testing.T) {
	blanks := func(s string, n int) string { return s + strings.Repeat(" ", n-len(s)) }
	checkGround(t, "just MaxText bytes", blanks("a.", 1500), "a", "a.")
	checkGround(t, "just MaxText bytes, the rule at last", strings.Repeat("\n", 1498)+"a.", "a", "a.")
	checkGround(t, "just MaxText blanks", strings.Repeat(" ", 1500), "", "")
	checkNoGround(t, "one more", blanks("a.", 1501), 0, impl.GrLong)
	checkNoGround(t, "one more, the rule at last", strings.Repeat("\n", 1499)+"a.", 0, impl.GrLong)
	checkNoGround(t, "many more", strings.Repeat("a.", 100000), 0, impl.GrLong)
	many := "p(1,2,3).p(4,5,6).p(7,8,9)."
	for name, s := range map[string]string{"a form": "a:b.", "what is not safe": "p(X).", "many constants": many, "nothing": "", "all": many + "p(X). ?"} {
		checkNoGround(t, "one more than MaxText, and "+name, blanks(s, 1501), 0, impl.GrLong)
	}
	checkNoGround(t, "just MaxText bytes and a form", blanks("a:b.", 1500), 2, impl.GrForm)
	checkNoGround(t, "just MaxText bytes and what is not safe", blanks(" p(X).", 1500), 1, impl.GrSafe)
	checkNoGround(t, "just MaxText bytes and many constants", blanks(many, 1500), 0, impl.GrMany)
	checkNoGround(t, "just MaxText bytes, one too early at its end", blanks("a", 1500), 1500, impl.GrForm)
	checkNoGround(t, "just MaxText bytes of one name", strings.Repeat("a", 1500), 1500, impl.GrForm)
	checkMany(t, "just MaxText bytes, all but one of one name", strings.Repeat("a", 1499)+".")
	checkNoGround(t, "signs of two bytes", strings.Repeat("é", 750), 0, impl.GrForm)
	checkNoGround(t, "signs of two bytes, one more", strings.Repeat("é", 751), 0, impl.GrLong)
	checkMany(t, "as many rules as may be", strings.Repeat("a.", 750))
	checkGround(t, "as many rules as may be, all left out", strings.Repeat("a:-b.", 300), "", "")
}

// TestGroundFirstOfTwo: of two faults of form in a text the first one is told.
func TestGroundFirstOfTwo(t *testing.T) {
	checkForm(t, "p(^). q(.", "a:^b. c", "a ^b c.", "^X. 1.", "a:-b<^<c!d.", "a. ^_. ?", "p(a,b,c,^d,e", "{^}}", "a:-not ^not not b. {}.", ":-a!^b. :b", "a:^ -b:c.", "a^\t\r.", "^?!", "p(a^;b;c).",
		"a:-"+lits(20, "b")+"^b,p(a,b,c,d).", "a:-p(a,b,c,^d),"+lits(20, "b")+"b.")
	checkForm(t, "p(X). a^", "p(X). a:^", "p(X). q(Y). ^.", ":-not p(X), a ^b.", ":-p(A,B),p(C,D,E),^.", "p(1,2,3). p(4,5,6). p(7,8,9). ^X.", strings.Repeat("a.", 61)+"^?", "abcdefghijklmnopqrstuvwxyz^", "a.b.c.d.e.f.g.h.i.j.k.l.m.n^")
}

func TestGroundOfUnsafeRules(t *testing.T) {
	checkSafe(t, "^p(X).", "^{p(X)}.", "^{a;p(X)}.", "^p(a,X).", "^:-X<1.", "^:-1<X.", "^:-X<X.", "^:-X!=X.", "^:-a<X.", "^:-not p(X).", "^:-a,not p(X).", "^a:-not p(X).",
		"^q(X):-a.", "^q(X):-p(Y).", "^q(X):-p(a).", "^q(X):-X<1.", "^q(X):-not p(X).", "^q(X):-not p(X),X<1,a.", "^q(X):-p(a),not p(X).", "^{q(X)}:-p(Y).", "^{q(Y);q(X)}:-p(Y).",
		"^a:-p(X),X<Y.", "^a:-X!=Y,p(X).", "^a:-p(X),not q(X,Y).", "^q(X,Y):-p(X).", "^q(Y,X):-p(X).", "^q(X,Y):-p(X),not p(Y).", "^q(X):-p(x).", "^q(X):-p(xX).", "^q(X):-p(XX).", "^q(Xx):-p(X).", "^q(X):-p(Xx,X1,X_).",
		"a. ^q(X).", "a.^q(X).", " ^q(X).", "\n \n^q(X).", "a. \n\n ^:-not p(X).", "a.\n ^{q(X)}.", "p(a). ^q(X):-not p(X). r(Y).", "q(X):-p(X).^q(X):-r.", "q(X):-p(X). ^:-X<1.", ":-p(X).^:-not p(X).:-p(X).", "q(X):-p(X).  ^q(Y):-p(X).", "^p(X). q(X):-p(X).",
		"^p(X):-q(a). p(X).", "^:-not p(A,B),p(A).", "^:-p(A,B),p(C),D<A.")
	checkGrounds(t, []groundCase{
		{"under not and without", "p(a). q(X):-not r(X),p(X).", "p(a) q(a)", "p(a). q(a):-p(a)."},
		{"in a comparison and without", "p(a). q(X):-X<b,p(X).", "p(a) q(a)", "p(a). q(a):-p(a)."},
		{"in the body alone", "p(a). q:-p(X).", "p(a) q", "p(a). q:-p(a)."},
		{"in another rule under another name", "p(a). q(X):-p(X). r(Y):-q(Y).", "p(a) q(a) r(a)", "p(a). q(a):-p(a). r(a):-q(a)."},
		{"each in its own atom", "p(a). q(X,Y,Z):-p(X),p(Y),p(Z).", "p(a) q(a,a,a)", "p(a). q(a,a,a):-p(a),p(a),p(a)."},
	})
}

func TestGroundOfManyVariables(t *testing.T) {
	checkGrounds(t, []groundCase{
		{"MaxVars variables", "p(a,a). q(A,D):-p(A,B),p(C,D).", "p(a,a) q(a,a)", "p(a,a). q(a,a):-p(a,a),p(a,a)."},
		{"MaxVars variables, often", "p(a,a). q(A,B,C):-p(A,B),p(C,D),p(B,C),A<b,not r(D).", "p(a,a) q(a,a,a)", "p(a,a). q(a,a,a):-p(a,a),p(a,a),p(a,a)."},
		{"MaxVars variables in each rule", "p(a,a). :-p(A,B),p(C,D). :-p(E,F),p(G,H).", "p(a,a)", "p(a,a). :-p(a,a),p(a,a). :-p(a,a),p(a,a)."},
	})
	checkSafe(t, "^:-p(A,B,C),p(D,E).", "^:-p(A),p(B),p(C),p(D),p(E).", "a. ^:-p(A,B,C),p(C,D,E).", "p(a). :-p(A,B),p(C,D).\n^q(A):-p(A,B,C),p(D,E),A<B.", "^q(A,B,C):-p(A,B,C),p(D,E).", "^:-p(A,B,C),p(D,E,F),p(G,H,I).",
		"^:-p(A,B),p(C,D),E<1.", "^:-p(A,B,C),p(D,E),F<1.", "^:-p(A,B,C),p(D,E). q(X).", "^q(X). :-p(A,B,C),p(D,E).", "^:-p(A,A1,A_),p(AA,Aa).")
}

// TestGroundOfTwoFaults: which of the codes comes where two would.
func TestGroundOfTwoFaults(t *testing.T) {
	const constants = "p(1,2,3).p(4,5,6).p(7,8,9)."
	const atoms = "a.b.c.d.e.f.g.h.i.j.k.l.m."
	rules := strings.Repeat("a.", 61)
	const label = "aaaaaaaaaaaaaaaaaaaaa."
	for _, many := range []string{constants, atoms, rules, label} {
		checkMany(t, "many alone", many)
		checkMany(t, "many and two of these", many+constants)
		checkForm(t, many+"^?", many+"a:^b.", "^?"+many, many+"q(X).^?")
		checkSafe(t, many+"^q(X).", many+" ^:-not q(X).", "^q(X)."+many, many+"^:-p(A,B,C),p(D,E).", "q. ^:-p(A,B,C),p(D,E)."+many)
	}
}

func TestGroundOfManyConstants(t *testing.T) {
	const eight = "p(1,2,3).p(4,5,6).p(7,8)."
	checkGrounds(t, []groundCase{
		{"MaxConsts constants", eight, "p(1,2,3) p(4,5,6) p(7,8)", "p(1,2,3). p(4,5,6). p(7,8)."},
		{"MaxConsts constants, often", eight + "p(8,7,1).a:-1<2,7<8,p(7,8).", "a p(1,2,3) p(4,5,6) p(7,8) p(8,7,1)", "p(1,2,3). p(4,5,6). p(7,8). p(8,7,1). a:-p(7,8)."},
		{"MaxConsts constants in comparisons", "a:-1<2,3<4,5<6,7!=8.", "a", "a."},
		{"MaxConsts constants in what is left out", "a:-p(1,2,3),p(4,5,6),p(7,8).", "", ""},
		{"names of atoms are none", eight + "a.b.c:-d,not e.{f;g}.", "a b f g p(1,2,3) p(4,5,6) p(7,8)", "p(1,2,3). p(4,5,6). p(7,8). a. b. {f;g}."},
		{"variables are none", eight + "a:-p(X,Y),p(Z,Q).", "a p(1,2,3) p(4,5,6) p(7,8)", "p(1,2,3). p(4,5,6). p(7,8). a:-p(7,8),p(7,8)."},
		{"a name as a constant and as an atom", "a(a). b(a,c). c. a. a(X):-b(X,c).", "a a(a) b(a,c) c", "a(a). b(a,c). c. a. a(a):-b(a,c)."},
		{"names of atoms in which they are constants", "a(b). b(a). c(X):-a(X). c(X):-b(X).", "a(b) b(a) c(a) c(b)", "a(b). b(a). c(b):-a(b). c(a):-b(a)."},
		{"numbers that differ as bytes alone", "p(1). p(01). p(001). a:-p(01).", "a p(001) p(01) p(1)", "p(1). p(01). p(001). a:-p(01)."},
		{"numbers that differ as bytes alone are as many constants", "p(1,01,001).p(0001,0,00).p(000,0000).", "p(000,0000) p(0001,0,00) p(1,01,001)", "p(1,01,001). p(0001,0,00). p(000,0000)."},
	})
	for _, ninth := range []string{"p(9).", "p(08).", "p(01).", "a:-p(9).", "a:-not p(9).", "{p(9)}.", "{a;p(9)}.", "a:-1<9.", "a:-9<1.", "a:-x<1.", "a:-1!=x.", "a:-9!=9.", ":-b,9<1.", "a:-b,p(9),c.", "a:-p(X),X<9.", "p(p)."} {
		checkMany(t, "one constant more", eight+ninth)
		checkMany(t, "one constant more, at first", ninth+eight)
	}
	checkMany(t, "one constant more in what is left out", "a:-p(1,2,3),p(4,5,6),p(7,8,9).")
	checkMany(t, "one constant more in comparisons", "a:-1<2,3<4,5<6,7!=8,9<9.")
	checkMany(t, "one constant more in comparisons that are not true", "a:-2<1,4<3,6<5,7!=7,8<8,9<9.")
	checkMany(t, "one constant more, and no variable", "a:-p(1,2,3),p(4,5,6).b:-p(7,8,9).")
	checkMany(t, "many constants", ":-"+lits(19, "p(a,b,c)")+"p(1,2,3).:-p(d,e,f).")
}

// TestGroundWithoutConstants: there is no way to put any for a variable, and one where there is no variable.
func TestGroundWithoutConstants(t *testing.T) {
	checkGrounds(t, []groundCase{
		{"a variable", "p(X):-q(X).", "", ""},
		{"a variable in a constraint", ":-p(X).", "", ""},
		{"a variable in a comparison", ":-p(X),X!=X. a:-p(X),X<X.", "", ""},
		{"a variable, and a fact", "a. p(X):-q(X). :-a,p(X).", "a", "a."},
		{"a constant in another rule", "p(X):-q(X). b:-q(c).", "", ""},
		{"no variable and no constant", "{a}. b:-a. :-b,not c.", "a b", "{a}. b:-a. :-b."},
		{"MaxVars variables", "a:-p(A,B),p(C,D).", "", ""},
	})
}

func TestGroundOrderOfWays(t *testing.T) {
	checkGrounds(t, []groundCase{
		{"one variable", "p(b). p(c). p(a). q(X):-p(X).", "p(a) p(b) p(c) q(a) q(b) q(c)", "p(b). p(c). p(a). q(a):-p(a). q(b):-p(b). q(c):-p(c)."},
		{"numbers by their bytes, ahead of names", "p(a). p(9). p(10). p(1). p(01). :-p(X).", "p(01) p(1) p(10) p(9) p(a)", "p(a). p(9). p(10). p(1). p(01). :-p(01). :-p(1). :-p(10). :-p(9). :-p(a)."},
		{"names by their bytes", "p(b). p(aa). p(a). p(a_). p(aZ). p(a0). :-p(X).", "p(a) p(a0) p(aZ) p(a_) p(aa) p(b)", "p(b). p(aa). p(a). p(a_). p(aZ). p(a0). :-p(a). :-p(a0). :-p(aZ). :-p(a_). :-p(aa). :-p(b)."},
		{"two variables", "p(1). p(2). :-p(X),p(Y).", "p(1) p(2)", "p(1). p(2). :-p(1),p(1). :-p(1),p(2). :-p(2),p(1). :-p(2),p(2)."},
		{"two variables, the other one first in the head", "p(1). p(2). q(Y,X):-p(X),p(Y).", "p(1) p(2) q(1,1) q(1,2) q(2,1) q(2,2)", "p(1). p(2). q(1,1):-p(1),p(1). q(1,2):-p(2),p(1). q(2,1):-p(1),p(2). q(2,2):-p(2),p(2)."},
		{"two variables, the other one first in a choice", "p(1). p(2). {a;q(Y)}:-p(X),p(Y).", "a p(1) p(2) q(1) q(2)", "p(1). p(2). {a;q(1)}:-p(1),p(1). {a;q(1)}:-p(2),p(1). {a;q(2)}:-p(1),p(2). {a;q(2)}:-p(2),p(2)."},
		{"two variables, the other one first in a comparison", "p(1). p(2). :-Y!=0,p(X),p(Y).", "p(1) p(2)", "p(1). p(2). :-p(1),p(1). :-p(2),p(1). :-p(1),p(2). :-p(2),p(2)."},
		{"two variables, the other one last in a comparison", "p(1). p(2). :-0!=Y,p(X),p(Y).", "p(1) p(2)", "p(1). p(2). :-p(1),p(1). :-p(2),p(1). :-p(1),p(2). :-p(2),p(2)."},
		{"two variables, the other one first under not", "p(1). p(2). :-not q(Y),p(X),p(Y).", "p(1) p(2)", "p(1). p(2). :-p(1),p(1). :-p(2),p(1). :-p(1),p(2). :-p(2),p(2)."},
		{"two variables, not in the order of their letters", "p(1). p(2). :-p(Z),p(A).", "p(1) p(2)", "p(1). p(2). :-p(1),p(1). :-p(1),p(2). :-p(2),p(1). :-p(2),p(2)."},
		{"two variables within an atom", "e(1,2). e(2,1). e(1,1). :-e(Y,X).", "e(1,1) e(1,2) e(2,1)", "e(1,2). e(2,1). e(1,1). :-e(1,1). :-e(1,2). :-e(2,1)."},
		{"the variables of each rule on their own", "p(1). p(2). :-p(X),p(Y). a(Y,X):-p(X),p(Y),X!=Y.", "a(1,2) a(2,1) p(1) p(2)", "p(1). p(2). :-p(1),p(1). :-p(1),p(2). :-p(2),p(1). :-p(2),p(2). a(1,2):-p(2),p(1). a(2,1):-p(1),p(2)."},
		{"three variables", "p(1). p(2). :-p(X),p(Y),p(Z),X!=Y.", "p(1) p(2)", "p(1). p(2). :-p(1),p(2),p(1). :-p(1),p(2),p(2). :-p(2),p(1),p(1). :-p(2),p(1),p(2)."},
		{"rules, then ways", "p(2). p(1). q(X):-p(X). r(X):-p(X).", "p(1) p(2) q(1) q(2) r(1) r(2)", "p(2). p(1). q(1):-p(1). q(2):-p(2). r(1):-p(1). r(2):-p(2)."},
		{"constants of other rules, too", "p(c). q(X):-p(X). r(a). q(X):-r(X). b:-a<b.", "b p(c) q(a) q(c) r(a)", "p(c). q(c):-p(c). r(a). q(a):-r(a). b."},
	})
	var ways []string
	for n := range 16 {
		number := func(bit int) string { return "p(" + strconv.Itoa(1+n>>bit&1) + ")" }
		ways = append(ways, ":-"+number(0)+","+number(1)+","+number(2)+","+number(3)+".")
	}
	checkGround(t, "MaxVars variables", "p(1). p(2). :-A!=0,B!=0,C!=0,D!=0,p(D),p(C),p(B),p(A).", "p(1) p(2)", "p(1). p(2). "+strings.Join(ways, " "))
}

// TestGroundOfWhatMayBe: the least set, through several rules, around in a circle, through choices; and what is left out.
func TestGroundOfWhatMayBe(t *testing.T) {
	checkGrounds(t, []groundCase{
		{"a rule that needs what is never there", "a:-b.", "", ""},
		{"a choice that needs what is never there", "{a}:-b.", "", ""},
		{"a constraint that needs what is never there", ":-b.", "", ""},
		{"it needs some that may be and one that is never there", "a. b:-a,c,a. :-a,c. {d}:-c,a.", "a", "a."},
		{"it needs itself", "a:-a. {b}:-b. c:-a,not d.", "", ""},
		{"it needs itself, but is there", "a:-a. a.", "a", "a:-a. a."},
		{"a circle", "a:-b. b:-c. c:-a. :-a,b,c.", "", ""},
		{"a circle of choices", "{a}:-b. {b}:-a.", "", ""},
		{"a circle with a way in", "a:-b. b:-c. c:-a. b:-d. {d}.", "a b c d", "a:-b. b:-c. c:-a. b:-d. {d}."},
		{"a circle with a way in through a choice", "{a;b}:-c. c:-a. c:-not e.", "a b c", "{a;b}:-c. c:-a. c."},
		{"a circle with a way in that needs more", "a:-b. b:-a. b:-d,e. {d}.", "d", "{d}."},
		{"through several rules", "a:-b. b:-c. c:-d. d.", "a b c d", "a:-b. b:-c. c:-d. d."},
		{"through several rules, the other way round", "d. c:-d. b:-c. a:-b.", "a b c d", "d. c:-d. b:-c. a:-b."},
		{"through several rules, none of them in order", "b:-c,d. a:-b,c. d. c:-d.", "a b c d", "b:-c,d. a:-b,c. d. c:-d."},
		{"not through what is broken", "a. :-a. b:-a.", "a b", "a. :-a. b:-a."},
		{"of what is never true, not alone does not tell", "a:-not a. b:-a. c:-b,not b.", "a b c", "a:-not a. b:-a. c:-b,not b."},
		{"through a choice", "{a}. b:-a. {c;d}:-b. e:-d.", "a b c d e", "{a}. b:-a. {c;d}:-b. e:-d."},
		{"not is no way in", "a:-not b. b:-not a.", "a b", "a:-not b. b:-not a."},
		{"not of what may not be is left out", "a:-not b,not c. {c}.", "a c", "a:-not c. {c}."},
		{"not of what may not be, in each rule", ":-not b. {a}:-not b. b:-c,not b.", "a", ":-. {a}."},
		{"not of what may not be, between others", "{a}. b:-a,not c,not a,not d,a.", "a b", "{a}. b:-a,not a,a."},
		{"not of what may not be, but its likes may", "{b(1)}. a:-not b,not b(1),not b(2),not b(1,1).", "a b(1)", "{b(1)}. a:-not b(1)."},
		{"not with variables", "d(1). d(2). {b(1)}. a(X):-d(X),not b(X).", "a(1) a(2) b(1) d(1) d(2)", "d(1). d(2). {b(1)}. a(1):-d(1),not b(1). a(2):-d(2)."},
		{"some ways left out", "d(1). d(2). b(2). a(X):-d(X),b(X).", "a(2) b(2) d(1) d(2)", "d(1). d(2). b(2). a(2):-d(2),b(2)."},
		{"some ways of one rule lead to others", "n(1,2). n(2,3). n(4,1). r(1). r(Y):-r(X),n(X,Y).", "n(1,2) n(2,3) n(4,1) r(1) r(2) r(3)", "n(1,2). n(2,3). n(4,1). r(1). r(2):-r(1),n(1,2). r(3):-r(2),n(2,3)."},
		{"some ways of one rule lead to others, around", "n(1,2). n(2,1). r(Y):-r(X),n(X,Y). {r(2)}. n(3,3).", "n(1,2) n(2,1) n(3,3) r(1) r(2)", "n(1,2). n(2,1). r(1):-r(2),n(2,1). r(2):-r(1),n(1,2). {r(2)}. n(3,3)."},
		{"ways that comparisons leave out lead to nothing", "p(1). p(2). q(X):-p(X),X<2. r(X):-q(X),1<X. s:-not q(2).", "p(1) p(2) q(1) s", "p(1). p(2). q(1):-p(1). s."},
		{"a variable's constant that nothing has", "p(1). q(X):-p(X),X!=2.", "p(1) q(1)", "p(1). q(1):-p(1)."},
		{"the longest way", "a1:-a2. a2:-a3. a3:-a4. a4:-a5. a5:-a6. a6:-a7. a7:-a8. a8:-a9. a9:-b1. b1:-b2. b2:-b3. b3.", "a1 a2 a3 a4 a5 a6 a7 a8 a9 b1 b2 b3",
			"a1:-a2. a2:-a3. a3:-a4. a4:-a5. a5:-a6. a6:-a7. a7:-a8. a8:-a9. a9:-b1. b1:-b2. b2:-b3. b3."},
	})
}

func TestGroundOrderOfNames(t *testing.T) {
	checkGrounds(t, []groundCase{
		{"falling", "c. b. a.", "a b c", "c. b. a."},
		{"as bodies come ahead of heads", "a:-b. b:-c. {c}.", "a b c", "a:-b. b:-c. {c}."},
		{"bytes of names", "b. aa. a_. aZ. a9. a.", "a a9 aZ a_ aa b", "b. aa. a_. aZ. a9. a."},
		{"what begins others", "ab(a). ab. a(b). abc. a.", "a a(b) ab ab(a) abc", "ab(a). ab. a(b). abc. a."},
		{"a bracket ahead of what goes on", "p1. p(z). pA. p_. p.", "p p(z) p1 pA p_", "p1. p(z). pA. p_. p."},
		{"a bracket's end ahead of a term more", "p(a,a,a). p(a,b). p(a,a). p(a). p(b).", "p(a) p(a,a) p(a,a,a) p(a,b) p(b)", "p(a,a,a). p(a,b). p(a,a). p(a). p(b)."},
		{"a term more ahead of a longer one", "p(a0). p(a,z). p(a).", "p(a) p(a,z) p(a0)", "p(a0). p(a,z). p(a)."},
		{"numbers by their bytes", "p(9). p(10). p(1). p(01).", "p(01) p(1) p(10) p(9)", "p(9). p(10). p(1). p(01)."},
		{"numbers ahead of names", "p(a). p(9). p(z,1).", "p(9) p(a) p(z,1)", "p(a). p(9). p(z,1)."},
		{"more than nine", "m. l. k. j. i. h. g. f. e. d. c. b.", "b c d e f g h i j k l m", "m. l. k. j. i. h. g. f. e. d. c. b."},
	})
}

func TestGroundOfHeadsAndBodies(t *testing.T) {
	checkGrounds(t, []groundCase{
		{"the same atom twice in a body", "{a;b}. c:-a,a,not b,a,not b.", "a b c", "{a;b}. c:-a,a,not b,a,not b."},
		{"the same atom twice behind variables", "p(1). q:-p(X),p(Y),p(1),not r(X),not r(Y). {r(1)}.", "p(1) q r(1)", "p(1). q:-p(1),p(1),p(1),not r(1),not r(1). {r(1)}."},
		{"an atom and its not in a body", "{a}. b:-not a,a.", "a b", "{a}. b:-not a,a."},
		{"the same rule twice", "a. a. p(1). :-p(X). :-p(X).", "a p(1)", "a. a. p(1). :-p(1). :-p(1)."},
		{"the same rule by two ways", "p(1). p(2). a:-p(X),b. a:-p(X). b:-p(X),p(1).", "a b p(1) p(2)", "p(1). p(2). a:-p(1),b. a:-p(2),b. a:-p(1). a:-p(2). b:-p(1),p(1). b:-p(2),p(1)."},
		{"heads in the order of their names", "d(2). {c;d(X);a}:-d(X).", "a c d(2)", "d(2). {a;c;d(2)}:-d(2)."},
		{"heads as terms rise otherwise than variables", "d(1). d(2). {q(X,Y);q(Y,X)}:-d(Y),d(X),X!=Y.", "d(1) d(2) q(1,2) q(2,1)", "d(1). d(2). {q(1,2);q(2,1)}:-d(2),d(1). {q(1,2);q(2,1)}:-d(1),d(2)."},
	})
	g, _, _ := impl.Ground("p(b). a. {c}. :-not c.")
	want := []impl.Show{{Text: "a", Cond: []int{1}}, {Text: "c", Cond: []int{2}}, {Text: "p(b)", Cond: []int{3}}}
	if !alike(g.P.Shows, want) || !alike(g.P.Rules, []impl.Rule{plain(3), plain(1), choice([]int{2}), constraint(-2)}) || g.P.Atoms != 3 || g.P.ProjOn {
		t.Errorf("%+v", g)
	}
}

func TestGroundOfManyAtoms(t *testing.T) {
	const twelve = "a. b. c. d. e. f. g. h. i. j. k. l."
	checkGrounds(t, []groundCase{
		{"MaxAtoms atoms", twelve, "a b c d e f g h i j k l", twelve},
		{"MaxAtoms atoms in a choice", "{l;k;j;i;h;g;f;e;d;c;b;a}.", "a b c d e f g h i j k l", "{a;b;c;d;e;f;g;h;i;j;k;l}."},
		{"MaxAtoms atoms, one more may not be", twelve + "m:-n. :-o. a:-not p,not q.", "a b c d e f g h i j k l", twelve + " a."},
		{"MaxAtoms atoms by variables", "p(1). p(2). p(3). q(X,Y):-p(X),p(Y).", "p(1) p(2) p(3) q(1,1) q(1,2) q(1,3) q(2,1) q(2,2) q(2,3) q(3,1) q(3,2) q(3,3)",
			"p(1). p(2). p(3). q(1,1):-p(1),p(1). q(1,2):-p(1),p(2). q(1,3):-p(1),p(3). q(2,1):-p(2),p(1). q(2,2):-p(2),p(2). q(2,3):-p(2),p(3). q(3,1):-p(3),p(1). q(3,2):-p(3),p(2). q(3,3):-p(3),p(3)."},
		{"many atoms that comparisons leave out", "p(1). p(2). p(3). p(4). q(X,Y):-p(X),p(Y),X<Y.", "p(1) p(2) p(3) p(4) q(1,2) q(1,3) q(1,4) q(2,3) q(2,4) q(3,4)",
			"p(1). p(2). p(3). p(4). q(1,2):-p(1),p(2). q(1,3):-p(1),p(3). q(1,4):-p(1),p(4). q(2,3):-p(2),p(3). q(2,4):-p(2),p(4). q(3,4):-p(3),p(4)."},
	})
	for _, more := range []string{"m.", "{m}.", "{a;m}.", "m:-a.", "m:-not m.", "{m}:-l,not n.", "p(a).", "m:-a. n:-m. o:-n."} {
		checkMany(t, "one atom more", twelve+more)
		checkMany(t, "one atom more, at first", more+twelve)
	}
	checkMany(t, "one atom more in a choice", "{l;k;j;i;h;g;f;e;d;c;b;a;m}.")
	checkMany(t, "one atom more by variables", "p(1). p(2). p(3). q(X,Y):-p(X),p(Y). r.")
	checkMany(t, "one atom more at the end of a long way", "a1:-a2. a2:-a3. a3:-a4. a4:-a5. a5:-a6. a6:-a7. a7:-a8. a8:-a9. a9:-b1. b1:-b2. b2:-b3. b3:-b4. b4.")
	checkMany(t, "very many atoms", "p(1,2,3). p(4,5,6). p(7,8,8). q(X):-p(X,Y,Z). q(Y):-p(X,Y,Z). q(Z):-p(X,Y,Z). r(X,Y,Z):-q(X),q(Y),q(Z). s(X,Y,Z):-r(Z,X,Y),q(A).")
}

func TestGroundOfManyRules(t *testing.T) {
	sixty := strings.Repeat("a.", 60)
	ways := "p(1).p(2).p(3).p(4).p(5).p(6).p(7).p(8)."
	checkGrounds(t, []groundCase{
		{"MaxRules rules", sixty, "a", strings.Repeat("a. ", 59) + "a."},
		{"MaxRules rules, more are left out", sixty + ":-b. c:-a,b. {d}:-b. :-2<1. a:-1!=1. p(X):-q(X).", "a", strings.Repeat("a. ", 59) + "a."},
	})
	for _, more := range []string{"a.", ":-a.", ":-not b.", "{a}.", "a:-a.", "a:-1<2.", "q(X):-q(X). p(1):-a,not b."} {
		checkMany(t, "one rule more", sixty+more)
		checkMany(t, "one rule more, at first", more+sixty)
	}
	// The 8 facts and 28 ways of a comparison leave room for 24 more.
	for more := range 24 {
		text := ways + ":-p(X),p(Y),X<Y." + strings.Repeat(":-p(1).", more+1)
		if g, place, code := impl.Ground(text); code != impl.GrOK || place != 0 || len(g.P.Rules) != 37+more {
			t.Errorf("of %q come %d rules, place %d, code %d", text, len(g.P.Rules), place, code)
		}
		checkMany(t, "ways of a rule, one rule more", text+strings.Repeat(":-p(2).", 24-more))
	}
	checkMany(t, "all ways of a rule", ways+":-p(X),p(Y).")
	checkMany(t, "all ways of rules with MaxVars variables", ways+strings.Repeat(":-p(A),p(B),p(C),p(D).", 60))
	checkGround(t, "all ways of rules with MaxVars variables, all left out", "{b}:-q(1,2,3). a:-q(4,5,6),q(7,8,8)."+strings.Repeat(":-p(A,B),p(C,D).", 80), "", "")
}

func TestGroundOfLongNames(t *testing.T) {
	checkGrounds(t, []groundCase{
		{"a name of MaxLabel bytes", "aaaaaaaaaaaaaaaaaaaa.", "aaaaaaaaaaaaaaaaaaaa", "aaaaaaaaaaaaaaaaaaaa."},
		{"an atom's text of MaxLabel bytes", "p(aaaaaaaa,bb,ccccc).", "p(aaaaaaaa,bb,ccccc)", "p(aaaaaaaa,bb,ccccc)."},
		{"an atom's text of MaxLabel bytes, with blanks", "p ( aaaaaaaa , bb , ccccc ) .", "p(aaaaaaaa,bb,ccccc)", "p(aaaaaaaa,bb,ccccc)."},
		{"by a variable", "p(12345). qqqqqqq(X,X):-p(X).", "p(12345) qqqqqqq(12345,12345)", "p(12345). qqqqqqq(12345,12345):-p(12345)."},
		{"of one that may not be", "aaaaaaaaaaaaaaaaaaaaa:-b. :-aaaaaaaaaaaaaaaaaaaaa. b:-b,not aaaaaaaaaaaaaaaaaaaaa. a.", "a", "a."},
		{"of one under not that may not be", "a:-not p(aaaaaaaaaaaaaaaaaa).", "a", "a."},
		{"of one that a comparison leaves out", "a(1). a(22). ppppppppppppppppp(X):-a(X),X<2.", "a(1) a(22) ppppppppppppppppp(1)", "a(1). a(22). ppppppppppppppppp(1):-a(1)."},
		{"of a constant and a variable", "a:-aaaaaaaaaaaaaaaaaaaaaaaaa!=b. b(1). c:-b(Xaaaaaaaaaaaaaaaaaaaaaaaaaaaa).", "a b(1) c", "a. b(1). c:-b(1)."},
	})
	checkMany(t, "a name of one byte more", "aaaaaaaaaaaaaaaaaaaaa.")
	checkMany(t, "a name of one byte more in a choice", "{b;aaaaaaaaaaaaaaaaaaaaa}.")
	checkMany(t, "an atom's text of one byte more", "p(aaaaaaaaa,bb,ccccc).")
	checkMany(t, "an atom's text of one byte more in a rule", "{a}. p(aaaaaaaaa,bb,ccccc):-a.")
	checkMany(t, "one byte more by a variable", "p(12345). qqqqqqqq(X,X):-p(X).")
	checkMany(t, "many bytes more", "a. "+strings.Repeat("b", 1000)+".")
}

func TestNameOf(t *testing.T) {
	g, _, _ := impl.Ground("p(a). p(b). q(X):-p(X), not r(X). {r(X)}:-p(X).")
	twenty := impl.Grounded{}
	for i := range 20 {
		twenty.Names = append(twenty.Names, "n"+strconv.Itoa(i+1))
	}
	odd := impl.Grounded{Names: []string{"b", "", "a b", "b", "\n"}, P: impl.Prog{Atoms: -7}}
	for _, c := range []struct {
		name string
		g    impl.Grounded
		x    []int
		want []string
	}{
		{"none", g, nil, nil},
		{"an empty list", g, []int{}, nil},
		{"one", g, []int{3}, []string{"q(a)"}},
		{"the first and the last", g, []int{1, 6}, []string{"p(a)", "r(b)"}},
		{"all", g, []int{1, 2, 3, 4, 5, 6}, []string{"p(a)", "p(b)", "q(a)", "q(b)", "r(a)", "r(b)"}},
		{"above the Names", g, []int{6, 7, 12}, []string{"r(b)"}},
		{"above the Names alone", g, []int{7, 8, 9, 10, 11, 12}, nil},
		{"no atoms", g, []int{0, -1, -6, 13, 14, math.MinInt, math.MaxInt, 1<<32 + 1, 257, 65537}, nil},
		{"no atoms among them", g, []int{0, 13, 2, -1}, []string{"p(b)"}},
		{"twice", g, []int{2, 2, 5, 2, 5}, []string{"p(b)", "r(a)"}},
		{"falling", g, []int{6, 5, 4, 1}, []string{"p(a)", "q(b)", "r(a)", "r(b)"}},
		{"falling and twice", g, []int{5, 1, 5, 1, 9}, []string{"p(a)", "r(a)"}},
		{"nothing grounded", impl.Grounded{}, []int{1, 2, 12}, nil},
		{"nothing grounded, and none", impl.Grounded{}, nil, nil},
		{"as many Names as there are atoms", twenty, []int{11, 12}, []string{"n11", "n12"}},
		{"more Names than there are atoms", twenty, []int{12, 13, 20, 1}, []string{"n1", "n12"}},
		{"Names that no text gives", odd, []int{5, 4, 3, 2, 1, 6}, []string{"b", "", "a b", "b", "\n"}},
		{"no program of its own", impl.Grounded{Names: []string{"a"}, P: wholeProg()}, []int{1, 2}, []string{"a"}},
		{"Names without Atoms", impl.Grounded{Names: []string{"a", "b"}}, []int{2}, []string{"b"}},
		{"Atoms without Names", impl.Grounded{P: impl.Prog{Atoms: 3}}, []int{2}, nil},
	} {
		if got := impl.NameOf(c.g, c.x); len(got) != len(c.want) || !slices.Equal(got, c.want) {
			t.Errorf("%s: NameOf(%+v, %v) = %q, not %q", c.name, c.g, c.x, got, c.want)
		}
	}
}

// A spot is a word of a text, or another byte of it, or some blanks, with its place.
type spot struct {
	kind, word string
	at         int
}

var spotForm = regexp.MustCompile(`^(?:[ \n]+|[a-zA-Z][a-zA-Z0-9_]*|[0-9]+)`)

func spotsOf(s string) []spot {
	var spots []spot
	for at := 0; at < len(s); {
		word := spotForm.FindString(s[at:])
		if word == "" {
			word = s[at : at+1]
		}
		kind := word
		switch c := word[0]; {
		case c == ' ' || c == '\n':
			kind = "blanks"
		case c >= '0' && c <= '9':
			kind = "number"
		case c >= 'A' && c <= 'Z':
			kind = "variable"
		case c >= 'a' && c <= 'z' && word != "not":
			kind = "name"
		}
		spots = append(spots, spot{kind, word, at})
		at += len(word)
	}
	return spots
}

// formed tells of each state in which a text may be what may come next, and the state then: no atom holds others, so that there are only a few. A lit's name may be the first term of a comparison.
var formed = map[string]map[string]string{
	"rule":             {"name": "head", "{": "choice", ":": "colon"},
	"head":             {"(": "head's terms", ":": "colon", ".": "rule"},
	"head's terms":     {"name": "head's term", "number": "head's term", "variable": "head's term"},
	"head's term":      {",": "head's terms", ")": "whole head"},
	"whole head":       {":": "colon", ".": "rule"},
	"choice":           {"name": "one of many"},
	"one of many":      {"(": "one's terms", ";": "choice", "}": "whole head"},
	"one's terms":      {"name": "one's term", "number": "one's term", "variable": "one's term"},
	"one's term":       {",": "one's terms", ")": "whole one"},
	"whole one":        {";": "choice", "}": "whole head"},
	"colon":            {"-": "lit"},
	"lit":              {"not": "not", "name": "lit's name", "number": "first", "variable": "first"},
	"not":              {"name": "name under not"},
	"name under not":   {"(": "lit's terms", ",": "lit", ".": "rule"},
	"lit's name":       {"(": "lit's terms", ",": "lit", ".": "rule", "!": "exclamation mark", "<": "second"},
	"lit's terms":      {"name": "lit's term", "number": "lit's term", "variable": "lit's term"},
	"lit's term":       {",": "lit's terms", ")": "whole lit"},
	"first":            {"!": "exclamation mark", "<": "second"},
	"exclamation mark": {"=": "second"},
	"second":           {"name": "whole lit", "number": "whole lit", "variable": "whole lit"},
	"whole lit":        {",": "lit", ".": "rule"},
}

// formBy tells where a text has its first fault of form, if it has one.
func formBy(s string) (int, bool) {
	state, terms, row := "rule", 0, 0
	for _, w := range spotsOf(s) {
		if w.kind == "blanks" && state != "colon" && state != "exclamation mark" {
			continue
		}
		next, may := formed[state][w.kind]
		switch state {
		case "head's terms", "one's terms", "lit's terms":
			terms++
			may = may && terms <= 3
		case "choice", "lit":
			row++
			may = may && row <= 20
		}
		if !may {
			return w.at, false
		}
		if w.kind == "(" {
			terms = 0
		}
		if w.kind == "{" || state == "colon" {
			row = 0
		}
		state = next
	}
	return len(s), state == "rule"
}

// A written rule is one as it stands in a text, without blanks.
type written struct {
	place       int
	words       []spot
	choice      bool
	heads, lits [][]spot
}

// cutBy are the parts of a row between signs that stand in no brackets.
func cutBy(row []spot, sign string) [][]spot {
	var parts [][]spot
	from, depth := 0, 0
	for i, w := range row {
		switch w.kind {
		case "(":
			depth++
		case ")":
			depth--
		case sign:
			if depth == 0 {
				parts = append(parts, row[from:i])
				from = i + 1
			}
		}
	}
	if len(row) > from {
		parts = append(parts, row[from:])
	}
	return parts
}

// writtenIn are the rules of a text that has no fault of form.
func writtenIn(s string) []written {
	words := slices.DeleteFunc(spotsOf(s), func(w spot) bool { return w.kind == "blanks" })
	var rules []written
	for _, row := range cutBy(words, ".") {
		r := written{place: row[0].at, words: row}
		if i := slices.IndexFunc(row, func(w spot) bool { return w.kind == ":" }); i >= 0 {
			r.lits, row = cutBy(row[i+2:], ","), row[:i]
		}
		if len(row) > 0 && row[0].kind == "{" {
			r.choice, row = true, row[1:len(row)-1]
		}
		r.heads = cutBy(row, ";")
		rules = append(rules, r)
	}
	return rules
}

func isComparison(lit []spot) bool {
	return slices.ContainsFunc(lit, func(w spot) bool { return w.kind == "!" || w.kind == "<" })
}

func wordsOfKind(row []spot, kind string) []string {
	var words []string
	for _, w := range row {
		if w.kind == kind && !slices.Contains(words, w.word) {
			words = append(words, w.word)
		}
	}
	return words
}

func (r written) safe() bool {
	var asked []string
	for _, lit := range r.lits {
		if lit[0].kind != "not" && !isComparison(lit) {
			asked = append(asked, wordsOfKind(lit, "variable")...)
		}
	}
	variables := wordsOfKind(r.words, "variable")
	return len(variables) <= 4 && !slices.ContainsFunc(variables, func(v string) bool { return !slices.Contains(asked, v) })
}

// constantsBy are in order.
func constantsBy(rules []written) []string {
	var all []string
	for _, r := range rules {
		for _, part := range slices.Concat(r.heads, r.lits) {
			terms := part[min(len(part), 2):] // behind a name and (
			if part[0].kind == "not" {
				terms = part[min(len(part), 3):]
			} else if isComparison(part) {
				terms = part
			}
			all = append(all, wordsOfKind(terms, "name")...)
			all = append(all, wordsOfKind(terms, "number")...)
		}
	}
	slices.Sort(all)
	return slices.Compact(all)
}

// An instance is a rule with a way, its atoms as their texts, with not ahead where it stands.
type instance struct {
	choice      bool
	heads, lits []string
}

// putBy is a part of a rule with a way as a text.
func putBy(row []spot, way map[string]string) string {
	text := ""
	for _, w := range row {
		if w.kind == "not" {
			text += "not "
		} else if w.kind == "variable" {
			text += way[w.word]
		} else {
			text += w.word
		}
	}
	return text
}

func (r written) put(way map[string]string) (instance, bool) {
	in := instance{choice: r.choice}
	for _, head := range r.heads {
		in.heads = append(in.heads, putBy(head, way))
	}
	for _, lit := range r.lits {
		if !isComparison(lit) {
			in.lits = append(in.lits, putBy(lit, way))
			continue
		}
		left, right := putBy(lit[:1], way), putBy(lit[len(lit)-1:], way)
		if left == right || lit[1].kind == "<" && left > right {
			return instance{}, false
		}
	}
	return in, true
}

// instancesBy counts the ways: the constants of the variables are the digits of a number.
func instancesBy(rules []written) []instance {
	constants := constantsBy(rules)
	var all []instance
	for _, r := range rules {
		variables := wordsOfKind(r.words, "variable")
		for n := range power(len(variables), len(constants)) {
			way := map[string]string{}
			for i := len(variables) - 1; i >= 0; i-- {
				way[variables[i]] = constants[n%len(constants)]
				n /= len(constants)
			}
			if in, ok := r.put(way); ok {
				all = append(all, in)
			}
		}
	}
	return all
}

// left tells whether all atoms without not are among some.
func (in instance) left(may map[string]bool) bool {
	return !slices.ContainsFunc(in.lits, func(lit string) bool { return !strings.HasPrefix(lit, "not ") && !may[lit] })
}

func mayBeBy(all []instance) map[string]bool {
	may := map[string]bool{}
	for range all {
		for _, in := range all {
			if in.left(may) {
				for _, head := range in.heads {
					may[head] = true
				}
			}
		}
	}
	return may
}

// text is what is left of an instance, where some atoms may be.
func (in instance) text(may map[string]bool) string {
	lits := slices.DeleteFunc(slices.Clone(in.lits), func(lit string) bool { return !may[strings.TrimPrefix(lit, "not ")] })
	heads := slices.Clone(in.heads)
	slices.Sort(heads)
	text := strings.Join(slices.Compact(heads), ";")
	if in.choice {
		text = "{" + text + "}"
	}
	if len(lits) > 0 || text == "" {
		text += ":-" + strings.Join(lits, ",")
	}
	return text + "."
}

// groundBy tells by the definition what comes of a text: names and rules, or a place and a code.
func groundBy(s string) (names, rules []string, place, code int) {
	if len(s) > 1500 {
		return nil, nil, 0, impl.GrLong
	}
	if place, ok := formBy(s); !ok {
		return nil, nil, place, impl.GrForm
	}
	texts := writtenIn(s)
	for _, r := range texts {
		if !r.safe() {
			return nil, nil, r.place, impl.GrSafe
		}
	}
	if len(constantsBy(texts)) > 8 {
		return nil, nil, 0, impl.GrMany
	}
	all := instancesBy(texts)
	may := mayBeBy(all)
	for name := range may {
		names = append(names, name)
	}
	slices.Sort(names)
	for _, in := range all {
		if in.left(may) {
			rules = append(rules, in.text(may))
		}
	}
	if len(names) > 12 || len(rules) > 60 || slices.ContainsFunc(names, func(name string) bool { return len(name) > 20 }) {
		return nil, nil, 0, impl.GrMany
	}
	return names, rules, 0, impl.GrOK
}

// checkBy asks the definition, and tells the code.
func checkBy(t *testing.T, name, s string) int {
	t.Helper()
	names, rules, place, code := groundBy(s)
	if code == impl.GrOK {
		checkGround(t, name, s, strings.Join(names, " "), strings.Join(rules, " "))
	} else {
		checkNoGround(t, name, s, place, code)
	}
	return code
}

var pieces = []string{"a", "X", "1", "not", " ", "(", ")", ",", ".", ":-", ":", "!=", "!", "<", "{", "}", ";", "_", "-", "="}

// TestGroundOfAllShortTexts: each text of up to three pieces behind some beginnings.
func TestGroundOfAllShortTexts(t *testing.T) {
	codes := map[int]int{}
	for _, start := range []string{"", "a", "p(", "p(a", "p(X,1", "p(a,b,c", "{", "{a", "{p(1)", "a:-", ":-b", ":-not", ":-not b", ":-p(1", ":-p(a)", ":-X", ":-1", ":-1<", ":-b!=2", "a.b", "p(a). q(X):-p(X)", "q(X):-p(a)", ":-X<Y", "{p(X)}:-not b"} {
		for n := range power(3, len(pieces)) {
			first, second, third := pieces[n%len(pieces)], pieces[n/len(pieces)%len(pieces)], pieces[n/len(pieces)/len(pieces)]
			codes[checkBy(t, "a short text", start+first+second+third)]++
			if third == pieces[0] {
				codes[checkBy(t, "a short text", start+first+second)]++
			}
			if t.Failed() {
				return
			}
		}
	}
	if codes[impl.GrOK] < 200 || codes[impl.GrSafe] < 100 || codes[impl.GrForm] < 100000 {
		t.Errorf("the texts are too much alike: codes %v", codes)
	}
}

var constantWords = []string{"1", "a", "10", "1", "a", "10", "b1", "1", "a", "10", "1", "a", "10", "b1", "01", "aLong_constant"}

// someTerms are terms in brackets, of constants and of some variables.
func someTerms(from *rand.Rand, n int, variables []string) string {
	var terms []string
	for range n {
		if len(variables) > 0 && from.Intn(4) > 0 {
			terms = append(terms, variables[from.Intn(len(variables))])
		} else {
			terms = append(terms, constantWords[from.Intn(len(constantWords))])
		}
	}
	if n == 0 {
		return ""
	}
	return "(" + strings.Join(terms, ",") + ")"
}

func someNamed(from *rand.Rand, variables []string) string {
	i := from.Intn(6)
	return []string{"p", "q", "e", "r", "s", "p"}[i] + someTerms(from, []int{1, 1, 2, 0, 0, 1}[i], variables)
}

func someComparison(from *rand.Rand, variables []string) string {
	terms := append([]string{"1", "a", "10"}, slices.Concat(variables, variables)...)
	return terms[from.Intn(len(terms))] + []string{"<", "!="}[from.Intn(2)] + terms[from.Intn(len(terms))]
}

// someBody is a row of lits, and the variables that a head may have.
func someBody(from *rand.Rand) (string, []string) {
	all := []string{"X", "Y", "Z"}[:from.Intn(4)]
	var lits, variables []string
	for range 1 + from.Intn(2) {
		lits = append(lits, someNamed(from, all))
	}
	for _, v := range all {
		if strings.Contains(strings.Join(lits, ""), v) || from.Intn(25) == 0 {
			variables = append(variables, v)
		}
	}
	for range from.Intn(3) {
		lits = append(lits, "not "+someNamed(from, variables))
	}
	for range from.Intn(2) {
		lits = append(lits, someComparison(from, variables))
	}
	from.Shuffle(len(lits), func(i, j int) { lits[i], lits[j] = lits[j], lits[i] })
	return strings.Join(lits, ","), variables
}

func someHead(from *rand.Rand, variables []string) string {
	switch from.Intn(5) {
	case 0:
		return "{" + someNamed(from, variables) + "}"
	case 1:
		return "{" + someNamed(from, variables) + ";" + someNamed(from, variables) + "}"
	default:
		return someNamed(from, variables)
	}
}

// someRules are rules of which mostly something comes.
func someRules(from *rand.Rand) []string {
	var rules []string
	for i := range from.Intn(3) * from.Intn(4) {
		rules = append(rules, "p("+constantWords[i]+").", "e("+constantWords[i+1]+","+constantWords[i]+").")
	}
	for range 1 + from.Intn(12) {
		body, variables := someBody(from)
		switch from.Intn(10) {
		case 0:
			rules = append(rules, ":-"+body+".")
		case 1, 2, 3, 4, 5:
			rules = append(rules, someHead(from, nil)+".")
		default:
			rules = append(rules, someHead(from, variables)+":-"+body+".")
		}
	}
	return rules
}

// spread is a text with some more blanks, where they may stand.
func spread(from *rand.Rand, s string) string {
	var text strings.Builder
	inSign := false
	for _, w := range spotsOf(s) {
		if !inSign && w.kind != "blanks" && from.Intn(3) == 0 {
			text.WriteString([]string{" ", "\n", "  ", " \n\n "}[from.Intn(4)])
		}
		text.WriteString(w.word)
		inSign = w.kind == ":" || w.kind == "!"
	}
	return text.String()
}

// TestGroundOfMany: of many texts, what the definition tells, and the same with other blanks.
func TestGroundOfMany(t *testing.T) {
	from := rand.New(rand.NewSource(90))
	codes := map[int]int{}
	rules, out := 0, 0
	for range 8000 {
		some := someRules(from)
		s := strings.Join(some, "")
		codes[checkBy(t, "some text", s)]++
		checkBy(t, "some text with blanks", spread(from, s))
		g, _, code := impl.Ground(s)
		if code == impl.GrOK && len(g.P.Rules) > 8 {
			rules++
		}
		if code == impl.GrOK && len(g.P.Rules) < len(some) {
			out++
		}
	}
	if codes[impl.GrOK] < 3000 || codes[impl.GrSafe] < 300 || codes[impl.GrMany] < 200 || rules < 300 || out < 500 {
		t.Errorf("the texts are too much alike: codes %v, %d with many rules, %d with rules that are left out", codes, rules, out)
	}
}

// TestGroundOfNearlyTexts: of many texts with one change or two, what the definition tells.
func TestGroundOfNearlyTexts(t *testing.T) {
	from := rand.New(rand.NewSource(91))
	codes := map[int]int{}
	for range 20000 {
		s := spread(from, strings.Join(someRules(from), ""))
		for range 1 + from.Intn(2) {
			i := from.Intn(len(s) + 1)
			j := min(i+from.Intn(3), len(s))
			piece := append(pieces, "", "", "\n", "p(a)", "X,", "not ", "\t", "é")
			s = s[:i] + piece[from.Intn(len(piece))] + s[j:]
		}
		codes[checkBy(t, "nearly a text", s)]++
	}
	if codes[impl.GrOK] < 800 || codes[impl.GrSafe] < 100 || codes[impl.GrMany] < 50 || codes[impl.GrForm] < 5000 {
		t.Errorf("the texts are too much alike: codes %v", codes)
	}
}

// TestGroundOfTextsCutShort: what only ends too early is told at the text's end.
func TestGroundOfTextsCutShort(t *testing.T) {
	from := rand.New(rand.NewSource(92))
	ended := 0
	for range 400 {
		s := spread(from, strings.Join(someRules(from), "")) + []string{"", " ", "\n"}[from.Intn(3)]
		for n := range len(s) {
			checkBy(t, "cut short", s[:n])
			if s[n] != '.' && strings.TrimRight(s[:n], " \n") != "" && !strings.HasSuffix(strings.TrimRight(s[:n], " \n"), ".") {
				checkNoGround(t, "cut short within a rule", s[:n], n, impl.GrForm)
				ended++
			}
		}
	}
	if ended < 10000 {
		t.Errorf("only %d texts end within a rule", ended)
	}
}

// answersByNames are the answers of a program, each told by names, in the order of these.
func answersByNames(g impl.Grounded) []string {
	var all []string
	for _, x := range impl.Answers(g.P) {
		all = append(all, strings.Join(impl.NameOf(g, x.A), " "))
	}
	slices.Sort(all)
	return all
}

// checkAlikeByNames fails where two texts do not have the same names and answers; it tells how many answers these are.
func checkAlikeByNames(t *testing.T, one, other string) int {
	t.Helper()
	g, place, code := impl.Ground(one)
	h, at, also := impl.Ground(other)
	if code != also || code != impl.GrSafe && place != at || !slices.Equal(g.Names, h.Names) || len(g.P.Rules) != len(h.P.Rules) {
		t.Fatalf("Ground(%q) = %+v, %d, %d, and Ground(%q) = %+v, %d, %d", one, g, place, code, other, h, at, also)
	}
	answers := answersByNames(g)
	if !slices.Equal(answers, answersByNames(h)) {
		t.Fatalf("of %q the answers are %q, and of %q %q", one, answers, other, answersByNames(h))
	}
	return len(answers)
}

// TestGroundInAnyOrder: the answers do not hang on the order of the rules, nor on which of two texts comes first.
func TestGroundInAnyOrder(t *testing.T) {
	from := rand.New(rand.NewSource(93))
	none, some, many := 0, 0, 0
	for range 4000 {
		rules, more := someRules(from), someRules(from)
		one, other := strings.Join(rules, ""), strings.Join(more, "")
		checkAlikeByNames(t, one+other, other+one)
		from.Shuffle(len(rules), func(i, j int) { rules[i], rules[j] = rules[j], rules[i] })
		switch n := checkAlikeByNames(t, one, strings.Join(rules, "\n")); {
		case n == 0:
			none++
		case n == 1:
			some++
		default:
			many++
		}
	}
	if none < 200 || some < 200 || many < 500 {
		t.Errorf("the texts are too much alike: %d without answers, %d with one, %d with more", none, some, many)
	}
}

// TestGroundNames: they rise, each atom that may be is named once, and has a rule of which it is a head; each answer told by names is what is shown of it.
func TestGroundNames(t *testing.T) {
	from := rand.New(rand.NewSource(94))
	named, answered := 0, 0
	for range 3000 {
		s := strings.Join(someRules(from), "")
		g, _, code := impl.Ground(s)
		if code != impl.GrOK {
			continue
		}
		heads := map[int]bool{}
		for _, r := range g.P.Rules {
			for _, a := range r.Heads {
				heads[a] = true
			}
		}
		for i, name := range g.Names {
			if i > 0 && g.Names[i-1] >= name || name == "" || len(name) > 20 || !heads[i+1] {
				t.Fatalf("of %q the Names are %q", s, g.Names)
			}
			named++
		}
		if all := impl.NameOf(g, impl.SetOf(4095)); len(all) != len(g.Names) || !slices.Equal(all, g.Names) || len(heads) != len(g.Names) {
			t.Fatalf("NameOf all atoms of %q is %q", s, all)
		}
		for _, x := range impl.Answers(g.P) {
			answered++
			if told, shown := impl.NameOf(g, x.A), impl.Shown(g.P, x.A); len(told) != len(x.A) || !slices.Equal(told, shown) {
				t.Fatalf("of %q the answer %v is told as %q, and shown as %q", s, x.A, told, shown)
			}
		}
	}
	if named < 5000 || answered < 2000 {
		t.Errorf("only %d names and %d answers", named, answered)
	}
}

// wholeBy is what comes of a text where nothing is left out: each atom has a number, and each rule is there in all ways; false where there is no room for that.
func wholeBy(s string) (impl.Grounded, bool) {
	all := instancesBy(writtenIn(s))
	var g impl.Grounded
	number := func(name string) int {
		if !slices.Contains(g.Names, name) {
			g.Names = append(g.Names, name)
		}
		return 1 + slices.Index(g.Names, name)
	}
	for _, in := range all {
		r := impl.Rule{Choice: in.choice}
		for _, head := range in.heads {
			r.Heads = append(r.Heads, number(head))
		}
		slices.Sort(r.Heads)
		r.Heads = slices.Compact(r.Heads)
		for _, lit := range in.lits {
			name, refused := strings.CutPrefix(lit, "not ")
			l := number(name)
			if refused {
				l = -l
			}
			r.Body = append(r.Body, wl(l, 1))
		}
		g.P.Rules = append(g.P.Rules, r)
	}
	g.P.Atoms = len(g.Names)
	return g, impl.ProgOk(g.P)
}

// TestGroundLeavesOutNothingOfAnswers: what is left out changes no answer.
func TestGroundLeavesOutNothingOfAnswers(t *testing.T) {
	from := rand.New(rand.NewSource(95))
	asked, fewer, answered := 0, 0, 0
	for range 6000 {
		s := strings.Join(someRules(from), "")
		g, _, code := impl.Ground(s)
		if code != impl.GrOK {
			continue
		}
		whole, ok := wholeBy(s)
		if !ok {
			continue
		}
		asked++
		if len(whole.Names) > len(g.Names) {
			fewer++
		}
		want := []string{}
		for _, x := range impl.Answers(whole.P) {
			var names []string
			for _, a := range x.A {
				names = append(names, whole.Names[a-1])
			}
			slices.Sort(names)
			want = append(want, strings.Join(names, " "))
			answered++
		}
		slices.Sort(want)
		if got := answersByNames(g); !slices.Equal(got, want) {
			t.Fatalf("of %q the answers are %q, not %q", s, got, want)
		}
	}
	if asked < 800 || fewer < 400 || answered < 800 {
		t.Errorf("the texts are too much alike: %d, %d of them with less atoms, %d answers", asked, fewer, answered)
	}
}

// TestGroundIsAlwaysTheSame: however often it is asked, by however many at once.
func TestGroundIsAlwaysTheSame(t *testing.T) {
	g, _, _ := impl.Ground("c. b. a.")
	byMany(25, func() {
		checkGround(t, "again", "p(b). p(a). p(c). {q(X)}:-p(X). r(Y,X):-q(X),q(Y),X<Y,not q(c).", "p(a) p(b) p(c) q(a) q(b) q(c) r(b,a) r(c,a) r(c,b)",
			"p(b). p(a). p(c). {q(a)}:-p(a). {q(b)}:-p(b). {q(c)}:-p(c). r(b,a):-q(a),q(b),not q(c). r(c,a):-q(a),q(c),not q(c). r(c,b):-q(b),q(c),not q(c).")
		checkForm(t, "p(a). q(X^")
		checkForm(t, "p(a) :^ q.")
		checkSafe(t, "p(a). ^q(X).")
		checkMany(t, "again", "p(1,2,3).p(4,5,6).p(7,8,9).")
		checkNoGround(t, "again", strings.Repeat(" ", 1501), 0, impl.GrLong)
		if got := impl.NameOf(g, []int{3, 1}); !slices.Equal(got, []string{"a", "c"}) {
			t.Errorf("NameOf is %q", got)
		}
	})
}

// groundeds are what comes of some texts, and what no text gives.
func groundeds() []impl.Grounded {
	var all []impl.Grounded
	for _, s := range []string{"", "a.", "p(a). p(b). q(X):-p(X), not r(X). {r(X)}:-p(X).", "{l;k;j;i;h;g;f;e;d;c;b;a}.", "?"} {
		g, _, _ := impl.Ground(s)
		all = append(all, g)
	}
	return append(all, impl.Grounded{Names: []string{"b", "a", "", "b"}, P: wholeProg()}, impl.Grounded{Names: times(20, "n"), P: odd()[0]})
}

func TestNameOfArgumentsAreKept(t *testing.T) {
	for _, made := range groundeds() {
		for _, x := range append(lists, []int{3, 1, 3, 12, 13, 0}, impl.SetOf(4095)) {
			list := withSpare(x)
			keeping(t, "NameOf", withSpare(made), func(g impl.Grounded) {
				if !alike(impl.NameOf(g, list), impl.NameOf(made, x)) {
					t.Errorf("NameOf reads the room behind the lists of %+v or %v", made, x)
				}
			})
			checkKept(t, "NameOf", list, x)
		}
	}
	names := []string{"a", "b", "c"}
	if got := impl.NameOf(impl.Grounded{Names: names[:1]}, []int{1, 2, 3}); !slices.Equal(got, []string{"a"}) {
		t.Errorf("names behind the Names are told: %q", got)
	}
	if got := impl.NameOf(impl.Grounded{Names: names}, []int{1, 2, 3}[:2]); !slices.Equal(got, []string{"a", "b"}) {
		t.Errorf("atoms behind x are told: %q", got)
	}
}

func TestGroundAnswersAreNew(t *testing.T) {
	from := rand.New(rand.NewSource(96))
	for i := range 300 {
		s := strings.Join(someRules(from), "")
		if i == 0 {
			s = "{l;k;j;i;h;g;f;e;d;c;b;a}." + strings.Repeat("a:-b,not c,d.", 59)
		}
		var all []any
		for range 2 {
			g, _, _ := impl.Ground(s)
			handsOutNothing(t, "Ground", reflect.ValueOf(g))
			names := impl.NameOf(g, []int{3, 1, 2})
			handsOutNothing(t, "NameOf", reflect.ValueOf(names))
			all = append(all, g, names)
		}
		checkApart(t, "Ground or NameOf", all...)
	}
	for range 2 {
		g, _, _ := impl.Ground("{a;b}:-c,not a. c.")
		names := impl.NameOf(g, []int{1, 2, 3})
		clear(names[:cap(names)])
		if g.Names[0] != "a" {
			t.Error("NameOf hands out the Names")
		}
		clear(g.Names[:cap(g.Names)])
		for _, r := range g.P.Rules {
			overwrite(r.Heads, -1)
			clear(r.Body[:cap(r.Body)])
		}
		for _, show := range g.P.Shows {
			overwrite(show.Cond, -1)
		}
	}
	checkGround(t, "where some are written into", "{a;b}:-c,not a. c.", "a b c", "{a;b}:-c,not a. c.")
}
