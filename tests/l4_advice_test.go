package tests

import (
	"maps"
	"math/rand"
	"slices"
	"strings"
	"testing"

	"loop.example/wovenprograms/impl"
)

// A wholeAdvice is all that is told of an aspect.
type wholeAdvice struct {
	least   int
	most    int
	changes bool
	prints  bool
	class   string
}

func told(a impl.Aspect) wholeAdvice {
	least, most := impl.ProceedsOf(a)
	return wholeAdvice{least, most, impl.ChangesValue(a), impl.PrintsIn(a), impl.ClassOf(a)}
}

func textOf(a impl.Aspect) string { return a.Kind + " " + a.Cut + " " + a.Body }

// checkAdvice asks every function that gets an aspect but AroundOf.
func checkAdvice(t *testing.T, a impl.Aspect, want wholeAdvice) {
	t.Helper()
	if !impl.AspectValid(a) || !impl.AspectsValid([]impl.Aspect{a}) {
		t.Errorf("%q: AspectValid %v, AspectsValid %v", textOf(a), impl.AspectValid(a), impl.AspectsValid([]impl.Aspect{a}))
	}
	if got := impl.FormatAspect(a); got != textOf(a) {
		t.Errorf("%q: FormatAspect %q", textOf(a), got)
	}
	if got, ok := impl.ParseAspect(textOf(a)); got != a || !ok {
		t.Errorf("ParseAspect(%q) = %q, %v", textOf(a), got, ok)
	}
	if got := told(a); got != want {
		t.Errorf("%q: %+v, want %+v", textOf(a), got, want)
	}
}

// checkNoAdvice asks every function that gets an aspect.
func checkNoAdvice(t *testing.T, a impl.Aspect) {
	t.Helper()
	if impl.AspectValid(a) || impl.AspectsValid([]impl.Aspect{a}) {
		t.Errorf("%q: AspectValid %v, AspectsValid %v", a, impl.AspectValid(a), impl.AspectsValid([]impl.Aspect{a}))
	}
	if got := impl.FormatAspect(a); got != "" {
		t.Errorf("%q: FormatAspect %q", a, got)
	}
	if got := told(a); got != (wholeAdvice{-1, -1, false, false, ""}) {
		t.Errorf("%q: %+v, want no advice", a, got)
	}
	checkNoAround(t, a)
	checkNoText(t, textOf(a))
}

func checkNoText(t *testing.T, s string) {
	t.Helper()
	if got, ok := impl.ParseAspect(s); got != (impl.Aspect{}) || ok {
		t.Errorf("ParseAspect(%q) = %q, %v, want none", s, got, ok)
	}
}

func checkAround(t *testing.T, a impl.Aspect, body string) {
	t.Helper()
	want := impl.Aspect{Kind: "around", Cut: a.Cut, Body: body}
	if got, ok := impl.AroundOf(a); got != want || !ok {
		t.Errorf("AroundOf(%q) = %q, %v, want %q", textOf(a), got, ok, want)
	}
}

func checkNoAround(t *testing.T, a impl.Aspect) {
	t.Helper()
	if got, ok := impl.AroundOf(a); got != (impl.Aspect{}) || ok {
		t.Errorf("AroundOf(%q) = %q, %v, want none", a, got, ok)
	}
}

func TestAdviceOfTheGrammar(t *testing.T) {
	for _, c := range []struct {
		kind, cut, body string
		want            wholeAdvice
	}{
		{"before", "P", "P", wholeAdvice{1, 1, false, true, "observer"}},
		{"before", "T", "", wholeAdvice{1, 1, false, false, "observer"}},
		{"before", "Cz", "+1", wholeAdvice{1, 1, true, false, "changer"}},
		{"before", "&P!Wb", "?[P][-9]", wholeAdvice{1, 1, true, true, "changer"}},
		{"after", "N", "", wholeAdvice{1, 1, false, false, "observer"}},
		{"after", "Fa", "?[][?[][P]]", wholeAdvice{1, 1, false, true, "observer"}},
		{"after", "Fa", "?[][?[*1][]]", wholeAdvice{1, 1, true, false, "changer"}},
		{"after", "|CaWb", "*0", wholeAdvice{1, 1, true, false, "changer"}},
		{"around", "Cb", "PKP", wholeAdvice{1, 1, false, true, "observer"}},
		{"around", "Cb", "K", wholeAdvice{1, 1, false, false, "observer"}},
		{"around", "Cb", "K+0", wholeAdvice{1, 1, true, false, "changer"}},
		{"around", "!T", "-0K", wholeAdvice{1, 1, true, false, "changer"}},
		// Advice that does not proceed.
		{"around", "P", "", wholeAdvice{0, 0, false, false, "keeper"}},
		{"around", "P", "P", wholeAdvice{0, 0, false, true, "keeper"}},
		{"around", "P", "+1", wholeAdvice{0, 0, true, false, "keeper"}},
		{"around", "P", "?[][]", wholeAdvice{0, 0, false, false, "keeper"}},
		{"around", "P", "?[P][*2]", wholeAdvice{0, 0, true, true, "keeper"}},
		// Proceeding within a choice.
		{"around", "T", "?[K][]", wholeAdvice{0, 1, false, false, "keeper"}},
		{"around", "T", "?[][K]", wholeAdvice{0, 1, false, false, "keeper"}},
		{"around", "T", "?[K+1][P]", wholeAdvice{0, 1, true, true, "keeper"}},
		{"around", "T", "?[K][K]", wholeAdvice{1, 1, false, false, "observer"}},
		{"around", "T", "?[K][PK]", wholeAdvice{1, 1, false, true, "observer"}},
		{"around", "T", "?[K][+1K]", wholeAdvice{1, 1, true, false, "changer"}},
		{"around", "T", "?[][]K", wholeAdvice{1, 1, false, false, "observer"}},
		{"around", "T", "?[+1][]K", wholeAdvice{1, 1, true, false, "changer"}},
		{"around", "T", "?[?[K][K]][K]", wholeAdvice{1, 1, false, false, "observer"}},
		{"around", "T", "?[?[K][]][K]", wholeAdvice{0, 1, false, false, "keeper"}},
		{"around", "T", "?[?[K][K]][]", wholeAdvice{0, 1, false, false, "keeper"}},
		{"around", "T", "KK", wholeAdvice{2, 2, false, false, "repeater"}},
		{"around", "T", "K+1KPK", wholeAdvice{3, 3, true, true, "repeater"}},
		{"around", "T", "?[KK][]", wholeAdvice{0, 2, false, false, "repeater"}},
		{"around", "T", "?[K][KK]", wholeAdvice{1, 2, false, false, "repeater"}},
		{"around", "T", "?[KK][KK]", wholeAdvice{2, 2, false, false, "repeater"}},
		{"around", "T", "K?[K][]", wholeAdvice{1, 2, false, false, "repeater"}},
		{"around", "T", "?[K][]K", wholeAdvice{1, 2, false, false, "repeater"}},
		// Choices are counted each by itself, though all runs of the first one proceed once.
		{"around", "T", "?[K][]?[][K]", wholeAdvice{0, 2, false, false, "repeater"}},
		{"around", "T", "?[K][]?[K][]", wholeAdvice{0, 2, false, false, "repeater"}},
		{"around", "T", "?[KK?[K][]][K]", wholeAdvice{1, 3, false, false, "repeater"}},
		{"around", "T", "?[?[KKK][]][?[K][KK]]", wholeAdvice{0, 3, false, false, "repeater"}},
	} {
		checkAdvice(t, impl.Aspect{Kind: c.kind, Cut: c.cut, Body: c.body}, c.want)
	}
}

func TestKindsThatAreNone(t *testing.T) {
	for _, kind := range []string{"", " ", "during", "Before", "AFTER", "Around", "before ", " before", "befor", "beforee", "a", "round", "beforeafter", "before after", "observer", "call", "print", "P", "0", "1", "around\x00", "\xff", "after\n", "äfter"} {
		for _, body := range []string{"", "P", "K", "+1"} {
			checkNoAdvice(t, impl.Aspect{Kind: kind, Cut: "P", Body: body})
		}
	}
	checkNoAdvice(t, impl.Aspect{})
}

func TestCutsThatAreNoneInAdvice(t *testing.T) {
	for _, cut := range []string{"", " ", "P ", " P", "p", "PP", "C", "CA", "Ca P", "!", "&P", "&P P", "|", "x", "K", "+1", "?[][]", "before", "\x00", "\xff"} {
		for _, kind := range []string{"before", "after", "around"} {
			checkNoAdvice(t, impl.Aspect{Kind: kind, Cut: cut, Body: ""})
			checkNoAdvice(t, impl.Aspect{Kind: kind, Cut: cut, Body: "P"})
		}
	}
}

func TestBodiesThatAreNoneOfAdvice(t *testing.T) {
	for _, body := range []string{
		// Calls.
		"Ca", "Cz", "PCa", "CaP", "?[Ca][]", "?[][Ca]", "?[?[][Cb]][]", "Ca?[][]", "?[Ca?[P][]][]", "KCa", "CaK", "?[K][Ca]", "C", "C1", "CK",
		// Brackets that do not end, or have nothing in front of them.
		"?", "?[", "?[]", "?[][", "?[K", "?[K]", "?[K][", "?[K][K", "?[P][?[][]", "?[?[][]", "?[[][]", "?[][]]", "]", "[]", "[K]", "K]", "?]", "?K[][]", "?[]K[]", "?[] []", "? [][]",
		"+", "-", "*", "+a", "+P", "+K", "1", "K1", "+10", "K+", "?[+][1]", "p", "k", "x", "T", "N", "W", " ", "P ", " P", "P K", "K ", "P\n", ";", "a:P", "P;b:", "\x00", "\xff", "Ｐ", "Ｋ", "+１",
	} {
		for _, kind := range []string{"before", "after", "around"} {
			checkNoAdvice(t, impl.Aspect{Kind: kind, Cut: "P", Body: body})
		}
	}
	for _, body := range []string{"K", "KK", "PK", "KP", "+1K", "?[K][]", "?[][K]", "?[K][K]", "?[P][?[][K]]", "?[?[K][]][]"} {
		checkNoAdvice(t, impl.Aspect{Kind: "before", Cut: "P", Body: body})
		checkNoAdvice(t, impl.Aspect{Kind: "after", Cut: "P", Body: body})
		if !impl.AspectValid(impl.Aspect{Kind: "around", Cut: "P", Body: body}) {
			t.Errorf("AspectValid of around with %q", body)
		}
	}
	// Proceeding is of advice alone.
	for _, body := range []string{"K", "?[K][]", "PK"} {
		checkNoBody(t, body)
		checkNoProgram(t, "a:"+body)
	}
}

func TestLimitOfAdvice(t *testing.T) {
	sixty := strings.Repeat("P", 60)
	for _, kind := range []string{"before", "after"} {
		checkAdvice(t, impl.Aspect{Kind: kind, Cut: "T", Body: sixty}, wholeAdvice{1, 1, false, true, "observer"})
		checkAdvice(t, impl.Aspect{Kind: kind, Cut: "T", Body: strings.Repeat("+0", 30)}, wholeAdvice{1, 1, true, false, "changer"})
		checkNoAdvice(t, impl.Aspect{Kind: kind, Cut: "T", Body: sixty + "P"})
	}
	for body, want := range map[string]wholeAdvice{
		strings.Repeat("K", 60):                   {60, 60, false, false, "repeater"},
		"?[" + strings.Repeat("K", 55) + "][]":    {0, 55, false, false, "repeater"},
		"?[K][" + strings.Repeat("P", 53) + "K]":  {1, 1, false, true, "observer"},
		"?[+1K][" + strings.Repeat("P", 52) + "]": {0, 1, true, true, "keeper"},
	} {
		checkAdvice(t, impl.Aspect{Kind: "around", Cut: "T", Body: body}, want)
		checkNoAdvice(t, impl.Aspect{Kind: "around", Cut: "T", Body: body + "K"})
	}
	deep := strings.Repeat("?[", 12) + strings.Repeat("][]", 12)
	checkAdvice(t, impl.Aspect{Kind: "around", Cut: "T", Body: deep}, wholeAdvice{0, 0, false, false, "keeper"})
	checkNoAdvice(t, impl.Aspect{Kind: "around", Cut: "T", Body: "K" + deep})
	for _, body := range []string{strings.Repeat("P", 400), strings.Repeat("?[", 30), strings.Repeat("?[", 100000), strings.Repeat("K", 1000000), strings.Repeat("é", 30)} {
		checkNoAdvice(t, impl.Aspect{Kind: "around", Cut: "T", Body: body})
	}
}

func TestLimitOfCutsOfAdvice(t *testing.T) {
	not := strings.Repeat("!", 40)
	checkAdvice(t, impl.Aspect{Kind: "before", Cut: not[:39] + "P"}, wholeAdvice{1, 1, false, false, "observer"})
	checkAdvice(t, impl.Aspect{Kind: "around", Cut: not[:38] + "Fb", Body: strings.Repeat("K", 60)}, wholeAdvice{60, 60, false, false, "repeater"})
	checkAround(t, impl.Aspect{Kind: "after", Cut: not[:39] + "P", Body: "P"}, "KP")
	checkNoAdvice(t, impl.Aspect{Kind: "before", Cut: not[:40] + "P"})
	checkNoAdvice(t, impl.Aspect{Kind: "around", Cut: not[:39] + "Fb", Body: "K"})
}

func TestListsOfAspects(t *testing.T) {
	good := []impl.Aspect{{Kind: "before", Cut: "P", Body: "P"}, {Kind: "after", Cut: "T"}, {Kind: "around", Cut: "Ca", Body: "KK"}, {Kind: "before", Cut: "P", Body: "P"}, {Kind: "around", Cut: "N"}, {Kind: "after", Cut: "P", Body: "+1"}}
	for n := range 6 {
		if !impl.AspectsValid(good[:n]) {
			t.Errorf("AspectsValid of %d aspects is false", n)
		}
	}
	if impl.AspectsValid(good) || impl.AspectsValid(slices.Repeat(good, 1000)) || !impl.AspectsValid(nil) || !impl.AspectsValid([]impl.Aspect{}) {
		t.Error("AspectsValid of too many, or of none")
	}
	for i := range 5 {
		for _, wrong := range []impl.Aspect{{}, {Kind: "before", Cut: "P", Body: "K"}, {Kind: "around", Cut: "x"}, {Kind: "x", Cut: "P"}} {
			list := slices.Clone(good[:5])
			list[i] = wrong
			if impl.AspectsValid(list) || impl.AspectsValid(list[:i+1]) || !impl.AspectsValid(list[:i]) {
				t.Errorf("AspectsValid with %q at %d", wrong, i)
			}
		}
	}
}

func TestTextsOfNoAspect(t *testing.T) {
	for _, s := range []string{
		"", " ", "  ", "   ", "before", "before ", "before P", "before  ", "before  P", "before  P P", " before P P", "before P P ", "before P  ", "before P  P", "before P P P", "before P\tP", "before\tP P", "before P P\n", "\nbefore P P",
		"P P P", "before P P;after P P", "beforeP P", "before PP", "before P K", "after P K", "around P", "around P KK ", "around P ?[K]", "around x K", "around K P", "P around K", "K P around", "Before P P", "before P Ca", "around P KCa", "before,P,P", "around P \x00", "around P K\xff", "before\u00a0P P",
	} {
		checkNoText(t, s)
	}
	checkNoText(t, strings.Repeat(" ", 1000000))
	checkNoText(t, "before P "+strings.Repeat("P", 61))
	checkNoText(t, strings.Repeat("before P ", 100000))
	for s, want := range map[string]impl.Aspect{"before P ": {Kind: "before", Cut: "P"}, "after !!T P": {Kind: "after", Cut: "!!T", Body: "P"}, "around N ": {Kind: "around", Cut: "N"}, "around &PFb ?[K][]": {Kind: "around", Cut: "&PFb", Body: "?[K][]"}} {
		if got, ok := impl.ParseAspect(s); got != want || !ok || impl.FormatAspect(got) != s {
			t.Errorf("ParseAspect(%q) = %q, %v", s, got, ok)
		}
	}
}

func TestAroundOf(t *testing.T) {
	for _, c := range [][3]string{
		{"before", "", "K"}, {"before", "P+1", "P+1K"}, {"before", "?[P][]", "?[P][]K"},
		{"after", "", "K"}, {"after", "P+1", "KP+1"}, {"after", "?[P][]", "K?[P][]"},
		{"around", "", ""}, {"around", "P", "P"}, {"around", "K", "K"}, {"around", "PKP", "PKP"}, {"around", "?[K][KK]", "?[K][KK]"},
	} {
		checkAround(t, impl.Aspect{Kind: c[0], Cut: "&Ca!Fb", Body: c[1]}, c[2])
	}
	full := strings.Repeat("P", 60)
	checkAround(t, impl.Aspect{Kind: "before", Cut: "T", Body: full[:59]}, full[:59]+"K")
	checkAround(t, impl.Aspect{Kind: "after", Cut: "T", Body: full[:59]}, "K"+full[:59])
	checkAround(t, impl.Aspect{Kind: "around", Cut: "T", Body: full}, full)
	checkAround(t, impl.Aspect{Kind: "around", Cut: "T", Body: full[:59] + "K"}, full[:59]+"K")
	// Both are valid, but what they would be as advice around is too long.
	checkNoAround(t, impl.Aspect{Kind: "before", Cut: "T", Body: full})
	checkNoAround(t, impl.Aspect{Kind: "after", Cut: "T", Body: full})
}

// isAdvice reads K as a print, since it may stand just where one may.
func isAdvice(kind string, body string) bool {
	if kind != "around" && strings.Contains(body, "K") || strings.Contains(body, "C") || len(body) > 60 {
		return false
	}
	return isBody(strings.ReplaceAll(body, "K", "P"))
}

// proceedCounts returns how often each way through a body of advice proceeds.
func proceedCounts(body string) map[int]bool {
	shape := strings.ReplaceAll(body, "K", "P")
	counts := map[int]bool{0: true}
	for i, end := 0, 0; i < len(body); i = end {
		end = statementEnd(shape, i)
		here := map[int]bool{0: true}
		switch body[i] {
		case 'K':
			here = map[int]bool{1: true}
		case '?':
			middle := bodyEnd(shape, i+2)
			here = proceedCounts(body[i+2 : middle])
			maps.Copy(here, proceedCounts(body[middle+2:end-1]))
		}
		sums := map[int]bool{}
		for n := range counts {
			for m := range here {
				sums[n+m] = true
			}
		}
		counts = sums
	}
	return counts
}

// tellAdvice returns what is to be told of an aspect.
func tellAdvice(a impl.Aspect) wholeAdvice {
	counts := map[int]bool{1: true}
	if a.Kind == "around" {
		counts = proceedCounts(a.Body)
	}
	list := slices.Sorted(maps.Keys(counts))
	w := wholeAdvice{list[0], list[len(list)-1], strings.ContainsAny(a.Body, "+-*"), strings.Contains(a.Body, "P"), "repeater"}
	switch {
	case slices.Equal(list, []int{1}):
		w.class = map[bool]string{false: "observer", true: "changer"}[w.changes]
	case w.most < 2:
		w.class = "keeper"
	}
	return w
}

func TestShortAdvice(t *testing.T) {
	valid := 0
	eachShortText("+1CKP?[]", 6, func(body string) {
		for _, kind := range []string{"before", "after", "around"} {
			a := impl.Aspect{Kind: kind, Cut: "T", Body: body}
			if isAdvice(kind, body) {
				valid++
				checkAdvice(t, a, tellAdvice(a))
			} else if impl.AspectValid(a) || impl.ClassOf(a) != "" {
				t.Fatalf("%q is no advice", textOf(a))
			}
		}
	})
	if valid < 300 {
		t.Errorf("just %d aspects", valid)
	}
}

// TestArbitraryBytesInAdvice puts each byte into each place of the text of aspects.
func TestArbitraryBytesInAdvice(t *testing.T) {
	for _, s := range []string{"before P P-1", "after !Ca ?[P][]", "around &PFb ?[K][+1K]"} {
		for b := range 256 {
			sign := string([]byte{byte(b)})
			for i := 0; i <= len(s); i++ {
				for _, text := range []string{s[:i] + sign + s[i:], s[:i] + sign + s[min(i+1, len(s)):]} {
					parts := strings.Split(text, " ")
					if len(parts) != 3 || !slices.Contains([]string{"before", "after", "around"}, parts[0]) || !isCut(parts[1]) || !isAdvice(parts[0], parts[2]) {
						checkNoText(t, text)
						continue
					}
					a := impl.Aspect{Kind: parts[0], Cut: parts[1], Body: parts[2]}
					checkAdvice(t, a, tellAdvice(a))
				}
			}
		}
	}
}

// randomAdvice returns a valid aspect.
func randomAdvice(r *rand.Rand) impl.Aspect {
	for {
		a := impl.Aspect{Kind: []string{"before", "after", "around"}[r.Intn(3)], Cut: randomCut(r, "abc", 2), Body: randomBody(r, "k", 2)}
		if a.Kind == "around" {
			a.Body = strings.ReplaceAll(a.Body, "Ck", "K")
		}
		if isCut(a.Cut) && isAdvice(a.Kind, a.Body) {
			return a
		}
	}
}

func TestAdviceAsAdviceAround(t *testing.T) {
	r := rand.New(rand.NewSource(8))
	classes := map[string]int{}
	for range 10000 {
		a := randomAdvice(r)
		want := tellAdvice(a)
		checkAdvice(t, a, want)
		classes[want.class]++
		around, ok := impl.AroundOf(a)
		if !ok {
			if a.Kind == "around" || len(a.Body) < 60 {
				t.Fatalf("AroundOf(%q) is none", textOf(a))
			}
			continue
		}
		if around.Kind != "around" || around.Cut != a.Cut || a.Kind == "around" && around != a {
			t.Fatalf("AroundOf(%q) = %q", textOf(a), textOf(around))
		}
		// It proceeds as often, changes and prints as much, and is its own advice around.
		checkAdvice(t, around, want)
		checkAround(t, around, around.Body)
	}
	for _, class := range []string{"observer", "changer", "keeper", "repeater"} {
		if classes[class] < 100 {
			t.Errorf("too few of some class: %v", classes)
		}
	}
}

// TestAdviceAsProcedures makes advice procedures in which a call stands for proceeding, and runs them.
func TestAdviceAsProcedures(t *testing.T) {
	r := rand.New(rand.NewSource(9))
	seen := map[wholeAdvice]int{}
	for range 10000 {
		a := randomAdvice(r)
		around, ok := impl.AroundOf(a)
		if !ok {
			continue
		}
		w := "a:" + strings.ReplaceAll(around.Body, "K", "Cb") + ";b:"
		value := randomValue(r)
		o, ran := impl.RunProgram(w, "a", value)
		calls, _ := impl.MatchesOf(w, "a", value, "Cb")
		want := told(a)
		if !ran || o.End != "done" || len(calls) < want.least || len(calls) > want.most {
			t.Fatalf("%q with %d: %v, %d calls, of %+v", w, value, o, len(calls), want)
		}
		if !want.changes && o.Value != value || !want.prints && len(o.Out) > 0 {
			t.Fatalf("%q with %d: %v, of %+v", w, value, o, want)
		}
		// What advice before or after does is done in front of the call, or behind it.
		body := map[string]string{"before": a.Body + "Cb", "after": "Cb" + a.Body}[a.Kind]
		if a.Kind != "around" && w != "a:"+body+";b:" {
			t.Fatalf("AroundOf(%q) = %q", textOf(a), textOf(around))
		}
		seen[want]++
	}
	if len(seen) < 20 {
		t.Errorf("just %d kinds of advice: %v", len(seen), seen)
	}
}

func TestAdviceStaysAsItIs(t *testing.T) {
	room := []impl.Aspect{{Kind: "before", Cut: "P", Body: "P"}, {Kind: "around", Cut: "T", Body: "KK"}, {Kind: "x"}}
	before := slices.Clone(room)
	if !impl.AspectsValid(room[:2]) || impl.AspectsValid(room) || !slices.Equal(room, before) {
		t.Errorf("AspectsValid made %q of %q", room, before)
	}
}
