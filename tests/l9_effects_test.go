package tests

import (
	"math"
	"math/rand"
	"slices"
	"strings"
	"sync"
	"testing"

	"loop.example/wovenprograms/impl"
)

func checkObservers(t *testing.T, list []impl.Aspect, observers bool, quiet bool) {
	t.Helper()
	if got := impl.AreObservers(list); got != observers {
		t.Errorf("AreObservers(%q) = %v", list, got)
	}
	if got := impl.AreQuiet(list); got != quiet {
		t.Errorf("AreQuiet(%q) = %v", list, got)
	}
}

func checkPart(t *testing.T, a []int, b []int, want bool) {
	t.Helper()
	if got := impl.IsPartOf(a, b); got != want {
		t.Errorf("IsPartOf(%v, %v) = %v", a, b, got)
	}
}

// checkOverlap asks for two aspects in both orders, and whether they may change places.
func checkOverlap(t *testing.T, w string, a impl.Aspect, b impl.Aspect, want string) {
	t.Helper()
	for _, list := range [][]impl.Aspect{{a, b}, {b, a}} {
		if got, ok := impl.OverlapOf(w, list[0], list[1]); shadowsText(got) != want || !ok {
			t.Errorf("OverlapOf(%q, %q) = %q, %v, want %q", w, list, shadowsText(got), ok, want)
		}
		if got := impl.CanSwap(w, list, 0); got != (want == "") {
			t.Errorf("CanSwap(%q, %q, 0) = %v", w, list, got)
		}
	}
}

func checkNoOverlap(t *testing.T, w string, a impl.Aspect, b impl.Aspect) {
	t.Helper()
	for _, list := range [][]impl.Aspect{{a, b}, {b, a}} {
		if got, ok := impl.OverlapOf(w, list[0], list[1]); len(got) != 0 || ok {
			t.Errorf("OverlapOf(%q, %q) = %q, %v, want none", w, list, shadowsText(got), ok)
		}
		if impl.CanSwap(w, list, 0) {
			t.Errorf("CanSwap(%q, %q, 0)", w, list)
		}
	}
}

func checkSwapped(t *testing.T, list []impl.Aspect, i int, want []impl.Aspect) {
	t.Helper()
	if got, ok := impl.SwapAspects(list, i); !slices.Equal(got, want) || !ok {
		t.Errorf("SwapAspects(%q, %d) = %q, %v, want %q", list, i, got, ok, want)
	}
}

func checkNotSwapped(t *testing.T, list []impl.Aspect, i int) {
	t.Helper()
	if got, ok := impl.SwapAspects(list, i); len(got) != 0 || ok {
		t.Errorf("SwapAspects(%q, %d) = %q, %v, want none", list, i, got, ok)
	}
	for _, w := range []string{"a:", "a:P"} {
		if impl.CanSwap(w, list, i) {
			t.Errorf("CanSwap(%q, %q, %d)", w, list, i)
		}
	}
}

func checkChanges(t *testing.T, w string, list []impl.Aspect, name string, value int, want bool) {
	t.Helper()
	if got, ok := impl.ChangesRun(w, list, name, value); got != want || !ok {
		t.Errorf("ChangesRun(%q, %q, %q, %d) = %v, %v, want %v", w, list, name, value, got, ok, want)
	}
}

func checkNoRunToChange(t *testing.T, w string, list []impl.Aspect, name string, value int) {
	t.Helper()
	if got, ok := impl.ChangesRun(w, list, name, value); got || ok {
		t.Errorf("ChangesRun(%q, %q, %q, %d) = %v, %v, want none", w, list, name, value, got, ok)
	}
}

func checkLeast(t *testing.T, w string, list []impl.Aspect, name string, most int, want int) {
	t.Helper()
	if got, ok := impl.LeastChange(w, list, name, most); got != want || !ok {
		t.Errorf("LeastChange(%q, %q, %q, %d) = %d, %v, want %d", w, list, name, most, got, ok, want)
	}
}

func checkNoLeast(t *testing.T, w string, list []impl.Aspect, name string, most int) {
	t.Helper()
	if got, ok := impl.LeastChange(w, list, name, most); got != 0 || ok {
		t.Errorf("LeastChange(%q, %q, %q, %d) = %d, %v, want none", w, list, name, most, got, ok)
	}
}

var (
	quietTexts    = strings.Split("before P /before T ?[][]/after Ca /after N ?[?[][]][]/around T K/around Fb ?[K][K]/around N ?[?[K][K]][?[][]K]/around P ?[][]K?[][]", "/")
	printingTexts = strings.Split("before P P/before N ?[P][]/after T PP/after &PFb ?[][?[][P]]/around T PKP/around Ca ?[K][PK]/around N ?[KP][?[K][K]]/around Wb ?[][P]K", "/")
	otherTexts    = strings.Split("before N +1/after P P*1/before T ?[][-0]/around P +1K/around T ?[K][K+0]/around P /around T P/around N ?[K][]/around T ?[][PK]/around P KK/around T ?[K][KK]/around N KPK/around T ?[K][]?[][K]/around T ?[K][]K", "/")
	wrongAspects  = []impl.Aspect{{}, {Kind: "before"}, {Cut: "T", Body: "P"}, {Kind: "before", Body: "P"}, {Kind: "Before", Cut: "T"}, {Kind: "before", Cut: "x"}, {Kind: "before", Cut: "PP", Body: "P"}, {Kind: "before", Cut: "P", Body: "K"}, {Kind: "after", Cut: "N", Body: "?[K][K]"}, {Kind: "around", Cut: "T", Body: "CaK"}, {Kind: "around", Cut: "T", Body: "?[K]"}, {Kind: "around", Cut: "T", Body: "K "}, {Kind: "after", Cut: "T", Body: strings.Repeat("P", 61)}, {Kind: "around", Cut: strings.Repeat("!", 40) + "T", Body: "K"}}
)

func TestObservers(t *testing.T) {
	checkObservers(t, nil, true, true)
	checkObservers(t, []impl.Aspect{}, true, true)
	quiet := aspectsOf(t, quietTexts...)
	for i, a := range quiet {
		checkObservers(t, []impl.Aspect{a}, true, true)
		checkObservers(t, slices.Repeat([]impl.Aspect{a}, 5), true, true)
		checkObservers(t, slices.Repeat([]impl.Aspect{a}, 6), false, false)
		checkObservers(t, quiet[i:min(i+5, len(quiet))], true, true)
	}
	checkObservers(t, quiet[:6], false, false)
	checkObservers(t, slices.Repeat(quiet, 1000), false, false)
	checkObservers(t, aspectsOf(t, "before T "+strings.Repeat("P", 60)), true, false)
	checkObservers(t, aspectsOf(t, "around T "+strings.Repeat("P", 59)+"K"), true, false)
	checkObservers(t, aspectsOf(t, "after "+strings.Repeat("!", 38)+"Fa "), true, true)
	// One of them that is not so is enough, wherever it stands.
	for i := range 5 {
		list := slices.Clone(quiet[:5])
		for _, a := range aspectsOf(t, printingTexts...) {
			list[i] = a
			checkObservers(t, list, true, false)
			checkObservers(t, list[:i+1], true, false)
			checkObservers(t, list[:i], true, true)
		}
		for _, a := range append(aspectsOf(t, otherTexts...), wrongAspects...) {
			list[i] = a
			checkObservers(t, list, false, false)
			checkObservers(t, list[:i+1], false, false)
		}
	}
	// Just the last one is no observer, behind one that prints.
	checkObservers(t, aspectsOf(t, "before P P", "after P ", "around P K", "before P +1"), false, false)
	checkObservers(t, aspectsOf(t, "before P P", "after P ", "around P K", "around P "), false, false)
	checkObservers(t, aspectsOf(t, "before P P", "after P ", "around P K", "around P KK"), false, false)
}

func TestObserversAsTexts(t *testing.T) {
	r := rand.New(rand.NewSource(27))
	found := map[[2]bool]int{}
	for range 20000 {
		var list []impl.Aspect
		observers, quiet := true, true
		for range r.Intn(4) {
			a := randomAdvice(r)
			told := tellAdvice(a)
			list = append(list, a)
			observers = observers && told.class == "observer"
			quiet = quiet && !told.prints
		}
		quiet = quiet && observers
		found[[2]bool{observers, quiet}]++
		checkObservers(t, list, observers, quiet)
	}
	if len(found) != 3 || found[[2]bool{true, false}] < 500 || found[[2]bool{true, true}] < 1000 || found[[2]bool{false, false}] < 1000 {
		t.Errorf("too few of some kind: %v", found)
	}
}

func TestIsPartOf(t *testing.T) {
	large, small := math.MaxInt, math.MinInt
	for _, c := range []struct {
		a, b []int
		want bool
	}{
		{nil, nil, true}, {[]int{}, nil, true}, {nil, []int{}, true}, {nil, []int{1}, true}, {[]int{}, []int{1, 2, 3}, true}, {[]int{1}, nil, false}, {[]int{0}, nil, false}, {[]int{0}, []int{}, false},
		{[]int{1, 2, 3}, []int{1, 2, 3}, true}, {[]int{1, 2}, []int{1, 2, 3}, true}, {[]int{2, 3}, []int{1, 2, 3}, true}, {[]int{1, 3}, []int{1, 2, 3}, true}, {[]int{2}, []int{1, 2, 3}, true}, {[]int{4}, []int{1, 2, 3}, false}, {[]int{1, 2, 3, 4}, []int{1, 2, 3}, false}, {[]int{0, 1}, []int{1, 2, 3}, false},
		// Numbers in another order.
		{[]int{3, 1}, []int{1, 2, 3}, false}, {[]int{2, 1}, []int{1, 2}, false}, {[]int{1, 3, 2}, []int{1, 2, 3}, false}, {[]int{3, 1}, []int{1, 2, 3, 1}, true}, {[]int{1, 2, 1}, []int{1, 1, 2}, false}, {[]int{1, 2, 1}, []int{1, 1, 2, 2, 1}, true},
		// A number that comes more often in one of them.
		{[]int{1, 1}, []int{1}, false}, {[]int{1}, []int{1, 1}, true}, {[]int{1, 1}, []int{1, 2, 1}, true}, {[]int{1, 1, 1}, []int{1, 2, 1}, false}, {[]int{2, 2}, []int{1, 2, 3}, false}, {[]int{0, 0}, []int{0, 0, 0}, true}, {[]int{0, 0, 0, 0}, []int{0, 0, 0}, false},
		{[]int{-1}, []int{1}, false}, {[]int{-1, 0}, []int{-1, 1, 0}, true}, {[]int{large, small}, []int{0, large, 1, small}, true}, {[]int{small, large}, []int{0, large, 1, small}, false}, {[]int{large}, []int{large - 1}, false}, {[]int{1 << 32}, []int{0}, false},
	} {
		checkPart(t, c.a, c.b, c.want)
	}
	many := make([]int, 100000)
	for i := range many {
		many[i] = i
	}
	checkPart(t, many, many, true)
	checkPart(t, many[1:], many, true)
	checkPart(t, many, many[1:], false)
	checkPart(t, []int{0, 99999}, many, true)
	checkPart(t, []int{99999, 0}, many, false)
	checkPart(t, make([]int, 100000), make([]int, 99999), false)
}

// TestPartsOfShortLists leaves numbers out of all short lists, and compares all others with what is left.
func TestPartsOfShortLists(t *testing.T) {
	eachShortText("012", 5, func(b string) {
		parts := map[string]bool{}
		for chosen := range 1 << len(b) {
			part := ""
			for i := range len(b) {
				if chosen>>i&1 == 1 {
					part += b[i : i+1]
				}
			}
			parts[part] = true
		}
		eachShortText("012", 4, func(a string) {
			checkPart(t, digitsOf(a), digitsOf(b), parts[a])
		})
	})
}

func digitsOf(s string) []int {
	var list []int
	for _, sign := range s {
		list = append(list, int(sign-'0'))
	}
	return list
}

// An overlapCase is a program with two cuts, and the shadows where both may have join points.
type overlapCase struct{ w, a, b, want string }

func TestOverlapOf(t *testing.T) {
	w := "a:PCb;b:P?[Cb][PCc];c:Ca"
	all := "print in a, call b in a, print in b, call b in b, print in b, call c in b, call a in c"
	for _, c := range []overlapCase{
		{"a:PCb;b:P", "P", "Wb", "print in b"}, {"a:PCb;b:P", "P", "Cb", ""}, {"a:PCb;b:P", "Wb", "Cb", ""},
		{w, "T", "T", all}, {w, "T", "N", ""}, {w, "N", "N", ""}, {w, "P", "!P", ""}, {w, "Cb", "Cc", ""}, {w, "Cb", "!Cc", "call b in a, call b in b"}, {w, "Wa", "Wb", ""}, {w, "P", "Wb", "print in b, print in b"}, {w, "!P", "!Wb", "call b in a, call a in c"}, {w, "&CbWa", "&CbWb", ""}, {w, "|CbWc", "|CcWa", "call b in a"},
		// Cuts that are open at a shadow: whether both have the same join points there is not asked.
		{w, "Fa", "T", all}, {w, "Fa", "Fb", all}, {w, "Fa", "!Fa", "print in b, call b in b, print in b, call c in b, call a in c"}, {w, "Fa", "!Fb", "print in a, call b in a, call a in c"}, {w, "!Fa", "!Fb", "call a in c"}, {w, "&PFc", "Wa", "print in a"}, {w, "&PFc", "&P!Fc", "print in a, print in b, print in b"}, {w, "&FaN", "T", ""}, {w, "|FaT", "P", "print in a, print in b, print in b"}, {w, "Fz", "Wc", "call a in c"}, {w, "&Fb!Fb", "Wa", "print in a, call b in a"}, {w, "Fc", "&WcP", ""},
		// Cuts that are known to match nowhere.
		{w, "Cz", "T", ""}, {w, "Wz", "T", ""}, {w, "&PCb", "T", ""}, {w, "&WaWb", "Fa", ""}, {w, "!T", "Fa", ""}, {w, "&Wa!Fa", "T", ""}, {w, "!|PT", "!N", ""},
		// Programs without shadows.
		{"a:", "T", "T", ""}, {"a:+1?[-1][*0?[][]]", "T", "T", ""}, {"a:;b:+1;z:?[][]", "T", "Fa", ""},
		// Procedures that are never called, statements that are the same, and those within others.
		{"a:;b:PCa", "T", "P", "print in b"}, {"a:PPP", "T", "P", "print in a, print in a, print in a"}, {"a:?[?[P][Ca]P][?[][Ca]]P", "T", "Fa", "print in a, call a in a, print in a, call a in a, print in a"}, {"m:Cz;z:PCm", "!Fq", "!Cm", "call z in m, print in z"},
	} {
		checkOverlap(t, c.w, impl.Aspect{Kind: "before", Cut: c.a, Body: "P"}, impl.Aspect{Kind: "before", Cut: c.b, Body: "P"}, c.want)
		// What the advice does is not asked.
		checkOverlap(t, c.w, impl.Aspect{Kind: "around", Cut: c.a}, impl.Aspect{Kind: "after", Cut: "!!" + c.b, Body: strings.Repeat("P", 60)}, c.want)
	}
	// An aspect with itself.
	for cut, want := range map[string]string{"T": all, "N": "", "P": "print in a, print in b, print in b", "Cc": "call c in b", "Cz": "", "Fa": all, "!Fa": "print in b, call b in b, print in b, call c in b, call a in c", "&P!P": "", "&Fz!Fz": all} {
		a := impl.Aspect{Kind: "around", Cut: cut, Body: "KP"}
		checkOverlap(t, w, a, a, want)
	}
}

func TestNoOverlaps(t *testing.T) {
	good := aspectsOf(t, "before T P", "around N ")
	for _, w := range noPrograms {
		checkNoOverlap(t, w, good[0], good[0])
		checkNoOverlap(t, w, good[0], good[1])
		checkNoOverlap(t, w, good[1], good[1])
		checkNoOverlap(t, w, good[0], impl.Aspect{})
	}
	for _, w := range []string{"a:", "a:PCa", "a:P;b:Ca"} {
		for _, wrong := range wrongAspects {
			checkNoOverlap(t, w, good[0], wrong)
			checkNoOverlap(t, w, good[1], wrong)
			checkNoOverlap(t, w, wrong, wrong)
		}
	}
}

// TestOverlapsAsTexts compares shadows with what the texts of cuts tell, and with the join points of runs.
func TestOverlapsAsTexts(t *testing.T) {
	r := rand.New(rand.NewSource(28))
	overlaps, none, both := 0, 0, 0
	eachWeaving(r, 3000, func(names string, bodies []string, _ []impl.Aspect, name string, value int) {
		w := programText(names, bodies)
		list := []impl.Aspect{{Kind: "before", Cut: randomCut(r, names+"q", 2), Body: "+1"}, {Kind: "after", Cut: randomCut(r, names+"q", 2), Body: "P"}}
		var want []impl.Shadow
		for _, h := range impl.ShadowsOf(w) {
			if knownOf(list[0].Cut, h, h.Within, letters) != "no" && knownOf(list[1].Cut, h, h.Within, letters) != "no" {
				want = append(want, h)
			}
		}
		checkOverlap(t, w, list[0], list[1], shadowsText(want))
		overlaps += len(want)
		if len(want) == 0 {
			none++
		}
		points, _ := impl.WovenPoints(w, list, name, value)
		for _, j := range points {
			if len(impl.AdviceAt(list, j)) == 2 {
				both++
				if h := (impl.Shadow{Kind: j.Kind, Name: j.Name, Within: j.Stack[len(j.Stack)-1:]}); !slices.Contains(want, h) {
					t.Fatalf("%q, %q: both at %+v", w, list, j)
				}
			}
		}
	})
	if overlaps < 1000 || none < 500 || both < 1000 {
		t.Errorf("just %d overlaps, %d programs without one, and %d join points of both", overlaps, none, both)
	}
}

// notIndices are numbers that are no index in front of another one, in no list of aspects.
var notIndices = []int{-1, -2, 5, 6, 1000, math.MaxInt, math.MaxInt - 1, math.MinInt, math.MinInt + 1, math.MaxInt32, math.MinInt32, 1 << 32, -1 << 32}

func TestCanSwap(t *testing.T) {
	w := "a:PCb;b:P"
	for _, c := range []struct {
		w      string
		advice []string
		can    []bool
	}{
		{w, []string{"before P P", "before Wb P", "before Cb P"}, []bool{false, true, false}},
		// The first two and the last two that may change places.
		{w, []string{"before P P", "before Cb P"}, []bool{true, false}}, {w, []string{"before P P", "around Cb ", "after T +1", "before P ", "before Cb "}, []bool{true, false, false, true, false}}, {w, []string{"before P P", "after T P", "after T P", "after T P", "before N P"}, []bool{false, false, false, true, false}}, {w, []string{"before P P", "before !P P", "before P P", "before !P P", "before P P"}, []bool{true, true, true, true, false}}, {w, []string{"before T P", "before T P", "before T P", "before T P", "before T P"}, []bool{false, false, false, false, false}},
		// Just these two are asked.
		{w, []string{"before P P", "before T P", "before Cb P"}, []bool{false, false, false}}, {w, []string{"before &PFb P", "before &P!Fb P", "before &CbFb P"}, []bool{false, true, false}},
		// Where both are the same, or do the same.
		{w, []string{"before P ", "before P "}, []bool{false, false}}, {w, []string{"around N K", "around N K"}, []bool{true, false}},
		{"a:+1", []string{"before T P", "before T P", "around T "}, []bool{true, true, false}}, {w, []string{"before T P"}, []bool{false}}, {w, nil, nil},
	} {
		list := aspectsOf(t, c.advice...)
		for i, want := range append(c.can, false, false) {
			if got := impl.CanSwap(c.w, list, i); got != want {
				t.Errorf("CanSwap(%q, %q, %d) = %v", c.w, c.advice, i, got)
			}
		}
		for _, i := range notIndices {
			if impl.CanSwap(c.w, list, i) {
				t.Errorf("CanSwap(%q, %q, %d)", c.w, c.advice, i)
			}
		}
		for _, w := range noPrograms {
			for i := range 5 {
				if impl.CanSwap(w, list, i) {
					t.Errorf("CanSwap(%q, %q, %d)", w, c.advice, i)
				}
			}
		}
	}
}

func TestSwapAspects(t *testing.T) {
	room := aspectsOf(t, "before P P", "around T K", "after Ca ", "around N "+strings.Repeat("K", 60), "before P P", "before T +1")
	for n := range 6 {
		list := room[:n]
		for i := range 5 {
			if i+1 >= n {
				checkNotSwapped(t, list, i)
				continue
			}
			want := slices.Concat(list[:i], []impl.Aspect{list[i+1], list[i]}, list[i+2:])
			checkSwapped(t, list, i, want)
			checkSwapped(t, want, i, list)
		}
		for _, i := range notIndices {
			checkNotSwapped(t, list, i)
		}
	}
	checkSwapped(t, slices.Repeat(room[:1], 2), 0, slices.Repeat(room[:1], 2))
	checkSwapped(t, aspectsOf(t, "before T "+strings.Repeat("P", 60), "after T "), 0, aspectsOf(t, "after T ", "before T "+strings.Repeat("P", 60)))
	for i := range 6 {
		checkNotSwapped(t, room, i)
		checkNotSwapped(t, slices.Repeat(room, 1000), i)
	}
	// One that is not valid, at other places too.
	for _, wrong := range wrongAspects {
		for k := range 5 {
			list := slices.Clone(room[:5])
			list[k] = wrong
			for i := range 5 {
				checkNotSwapped(t, list, i)
			}
		}
		checkNotSwapped(t, []impl.Aspect{wrong}, 0)
	}
}

// changes has, by the texts of one aspect each, whether it changes a run.
type changes map[string]bool

func checkEachChange(t *testing.T, w string, value int, cases changes) {
	t.Helper()
	for text, want := range cases {
		checkChanges(t, w, aspectsOf(t, text), "a", value, want)
	}
}

func TestChangesRun(t *testing.T) {
	w := "a:+1Cb*2P;b:+3"
	checkChanges(t, w, nil, "a", 0, false)
	checkChanges(t, w, []impl.Aspect{}, "b", 0, false)
	checkEachChange(t, w, 0, changes{
		// The value alone, the prints alone, and both.
		"after P +1": true, "before Cb P": true, "after P P": true, "before Cb +1": true, "around Cb ": true, "around P ": true, "around Cb KK": true, "around T PKP": true, "before P ?[P][]": true,
		// What is done nowhere, or does nothing.
		"before N P": false, "before Cz P": false, "around T K": false, "before T ": false, "after Cb ": false, "before P ?[][P]": false,
		// Steps alone.
		"around T ?[K][K]": false, "before T ?[][]": false, "before Cb +0": false, "after T *1": false, "before P +1-1": false, "around P *1+9-9K": false, "around Cb +3": false, "around Cb ?[+3][]": false,
		// What is kept out is done all the same.
		"around P P": false, "around P *1P": false,
	})
	checkChanges(t, w, aspectsOf(t, "around P ", "before P P"), "a", 0, true)
	checkChanges(t, w, aspectsOf(t, "before P P", "around P "), "a", 0, false)
	checkChanges(t, w, aspectsOf(t, "before Cb +1", "after Cb -1"), "a", 0, false)
	checkChanges(t, w, aspectsOf(t, "before T P", "around N "), "b", 0, false)
	// As many prints, but of another value.
	checkChanges(t, "a:P", aspectsOf(t, "before P +1", "after P -1"), "a", 0, true)
	checkChanges(t, "a:", aspectsOf(t, "before T P", "around T "), "a", 0, false)
	for _, value := range []int{-9999, -1, 0, 1, 9999} {
		checkChanges(t, "a:?[P][]", aspectsOf(t, "before P P"), "a", value, value > 0)
		checkChanges(t, "a:P", aspectsOf(t, "before P +9*0"), "a", value, value != 0)
	}
}

func TestChangesOfRunsThatEndEarly(t *testing.T) {
	// Runs that end as long with advice alone, and with and without it.
	for steps, want := range map[int]bool{490: false, 491: false, 492: true, 499: true, 500: true, 501: false, 549: false} {
		w, _ := afterSteps(steps, "")
		checkEachChange(t, w, 5, changes{"before Cb +0": want, "after Cb ?[][]": want, "around T ?[K][K]": want, "before T ": false})
	}
	w, _ := afterSteps(499, "P")
	checkEachChange(t, w, 5, changes{"before P ": false, "before P P": true, "around P P": false, "around P PK": true, "around P ?[][]": true})
	w, _ = afterSteps(500, "P")
	checkEachChange(t, w, 5, changes{"before P ": false, "before P P": false, "around P P": false, "around P ": true})
	long := "a:" + strings.Repeat("Cb", 20) + ";b:" + strings.Repeat("+1", 49)
	checkEachChange(t, long, 0, changes{"before Cb +0": true, "after Cb ": false, "around Cb ": true, "before Cb +1-1": true})
	// As many calls of as many steps leave as many prints.
	long = "a:" + strings.Repeat("Cb", 20) + ";b:" + strings.Repeat("P", 49)
	checkEachChange(t, long, 0, changes{"before Cb +0": true, "before Cb P": false, "after Cb ": false, "around P ": true, "around P P": false})
	checkChanges(t, "a:"+strings.Repeat("Cb", 10)+";b:"+strings.Repeat("P", 60), aspectsOf(t, "around Cb PK"), "a", 0, false)
	// Runs that end as deep.
	checkEachChange(t, "a:CaP", 0, changes{"before Ca +0": false, "before Ca P": true, "before Ca +1": true, "after Ca P": false, "after P P": false, "around Ca K+1P": false, "around Ca ": true, "around Ca KK": false})
	down := "a:?[-1Ca][]"
	for value, deep := range map[int]bool{0: false, 1: false, 18: false, 19: false, 20: true, 21: true, 9999: true} {
		checkEachChange(t, down, value, changes{"before Ca +0": false, "around Ca K": false, "before Ca +1": value > 0, "after Ca +1": value > 0 && !deep, "after Ca P": value > 0 && !deep, "around Ca ": value > 1, "around Ca ?[-1K][]": deep})
	}
	// Runs that end as long with advice, as deep without it.
	for n, want := range map[int]bool{22: false, 23: false, 24: true, 25: false} {
		checkEachChange(t, "a:"+strings.Repeat("+0", n)+"Ca", 7, changes{"before Ca +0": want, "around T K": false})
	}
}

func TestNoRunsToChange(t *testing.T) {
	good := aspectsOf(t, "before P P", "around T K", "after Ca ", "around N KK", "before Fa +1", "before P P")
	for _, name := range append([]string{"c", "z", "Ca"}, wrongNames...) {
		for _, list := range [][]impl.Aspect{nil, good[:2], good} {
			checkNoRunToChange(t, "a:P;b:Ca", list, name, 0)
			checkNoLeast(t, "a:P;b:Ca", list, name, 500)
		}
	}
	for _, w := range noPrograms {
		for _, list := range [][]impl.Aspect{nil, good[:5], {{}}} {
			checkNoRunToChange(t, w, list, "a", 0)
			checkNoLeast(t, w, list, "a", 20)
		}
	}
	for _, value := range []int{-10000, 10000, -10001, 20000, math.MinInt, math.MaxInt, math.MinInt32, math.MaxInt32, 1 << 40} {
		checkNoRunToChange(t, "a:P", good[:1], "a", value)
		checkNoRunToChange(t, "a:P", nil, "a", value)
	}
	checkChanges(t, "a:P", good[:5], "a", 0, true)
	checkLeast(t, "a:P", good[:5], "a", 0, 0)
	lists := [][]impl.Aspect{good, slices.Repeat(good, 1000)}
	for _, wrong := range wrongAspects {
		for i := range 5 {
			list := slices.Clone(good[:5])
			list[i] = wrong
			lists = append(lists, list)
		}
		lists = append(lists, []impl.Aspect{wrong})
	}
	for _, list := range lists {
		for _, w := range []string{"a:", "a:P"} {
			checkNoRunToChange(t, w, list, "a", 0)
			checkNoLeast(t, w, list, "a", 40)
		}
	}
}

// TestChangesAsTexts compares with outcomes of texts.
func TestChangesAsTexts(t *testing.T) {
	r := rand.New(rand.NewSource(29))
	found := map[string]int{}
	eachWeaving(r, 4000, func(names string, bodies []string, list []impl.Aspect, name string, value int) {
		w := programText(names, bodies)
		plain, woven := runOfTexts(names, bodies, name, value).outcome, weaveOfTexts(names, bodies, list, name, value).outcome
		want := withoutSteps(plain) != withoutSteps(woven)
		checkChanges(t, w, list, name, value, want)
		switch {
		case want:
			found["changed"]++
		case plain != woven:
			found["steps alone"]++
		case len(list) > 0:
			found["same"]++
		}
	})
	for _, word := range []string{"changed", "steps alone", "same"} {
		if found[word] < 50 {
			t.Errorf("too few of some kind: %v", found)
		}
	}
}

func withoutSteps(outcome string) string { return outcome[:strings.LastIndex(outcome, " ")] }

// printsFrom returns a program that prints just if the value is at least this one, at most 900.
func printsFrom(value int) string {
	less := value - 1
	if less < 0 {
		return "a:+1?[P][]"
	}
	return "a:" + strings.Repeat("-9", less/9) + "-" + string(rune('0'+less%9)) + "?[P][]"
}

func TestLeastChange(t *testing.T) {
	twice := aspectsOf(t, "before P P")
	for _, value := range []int{0, 1, 2, 3, 7, 14, 15, 16, 17, 31, 32, 33, 99, 255, 256, 257, 498, 499, 500} {
		w := printsFrom(value)
		// The greatest one that is asked, and the least of several ones.
		for _, most := range []int{value, value + 1, value + 20, 500, 501, 10000, math.MaxInt32, math.MaxInt} {
			checkLeast(t, w, twice, "a", most, value)
		}
		for _, most := range []int{value - 1, value - 2, value - 20, -1, -500, math.MinInt32, math.MinInt} {
			checkNoLeast(t, w, twice, "a", most)
		}
	}
	// Behind MaxSteps.
	for _, value := range []int{501, 502, 516, 900} {
		for _, most := range []int{499, 500, 501, 502, 900, 9999, 10000, math.MaxInt - 1, math.MaxInt} {
			checkNoLeast(t, printsFrom(value), twice, "a", most)
		}
	}
	// Just some values, and negative ones, which are not asked.
	checkLeast(t, "a:-3?[][+1?[P][]]", twice, "a", 500, 3)
	checkNoLeast(t, "a:-3?[][+1?[P][]]", twice, "a", 2)
	for most, want := range map[int]int{7: 7, 8: 7, 19: 7, 500: 7} {
		checkLeast(t, "a:-7?[-9-3?[][+1?[P][]]][+1?[P][]]", twice, "a", most, want)
	}
	checkLeast(t, "a:-7?[-9-3?[][+1?[P][]]][]", twice, "a", 500, 19)
	checkNoLeast(t, "a:+1?[][P]", twice, "a", 500)
	checkLeast(t, "a:?[][P]", twice, "a", 500, 0)
	checkNoLeast(t, "a:?[][P]", twice, "a", -1)
	// Where none changes the run.
	for _, most := range []int{-1, 0, 1, 15, 16, 500, 501, math.MaxInt} {
		checkNoLeast(t, "a:P", nil, "a", most)
		checkNoLeast(t, "a:PCb;b:P", aspectsOf(t, "around T ?[K][K]", "before P ", "around N "), "a", most)
		checkNoLeast(t, "a:", aspectsOf(t, "before T P"), "a", most)
		checkNoLeast(t, "a:P;b:", twice, "b", most)
	}
	// Where the end of the run changes alone, or the value.
	checkNoLeast(t, "a:?[-1Ca][]", aspectsOf(t, "around Ca K", "before Ca ?[][]", "after Ca +1"), "a", 0)
	checkNoLeast(t, "a:?[-1Ca][]", aspectsOf(t, "around Ca K", "before Ca ?[][]", "after Ca ?[?[][]][]"), "a", 500)
	checkLeast(t, "a:?[-1Ca][]", aspectsOf(t, "around Ca ?[K][]", "before Ca "), "a", 500, 20)
	checkLeast(t, "a:?[-1"+strings.Repeat("+0", 22)+"Ca][]", aspectsOf(t, "before Ca +0"), "a", 500, 20)
	checkLeast(t, "a:P", aspectsOf(t, "after P *2"), "a", 500, 1)
	checkLeast(t, "a:P", aspectsOf(t, "after P *0"), "a", 500, 1)
	checkLeast(t, "a:Cb;b:P", aspectsOf(t, "around Cb -5?[][+5K-5]+5"), "a", 500, 6)
}

// TestLeastChangeOfRunsThatKeepMuchOut has tens of thousands of join points in a run, at which advice proceeds without a step.
func TestLeastChangeOfRunsThatKeepMuchOut(t *testing.T) {
	w := "a:" + strings.Repeat("Cb", 20) + ";b:" + strings.Repeat("Cc", 26) + ";c:" + strings.Repeat("Cd", 142) + ";d:"
	list := append(slices.Repeat([]impl.Aspect{{Kind: "around", Cut: "Cd", Body: strings.Repeat("K", 60)}}, 4), aspectsOf(t, "around Cd ")...)
	checkNoLeast(t, w, list, "a", 40)
	checkLeast(t, w, list, "b", 500, 0)
}

// TestLeastChangeIsTheFirstOne tries one value after the other in programs that do something else from some value on.
func TestLeastChangeIsTheFirstOne(t *testing.T) {
	r := rand.New(rand.NewSource(30))
	none, found := 0, map[int]int{}
	eachWeaving(r, 1000, func(names string, bodies []string, list []impl.Aspect, name string, _ int) {
		i, first := strings.Index(names, name), []string{"", "P", "+1"}[r.Intn(3)]
		bodies[i] = strings.Repeat("-9", r.Intn(6)) + "?[" + bodies[i] + "][" + first + "]"
		w, most := programText(names, bodies), r.Intn(60)-5
		if !impl.ProgramValid(w) {
			return
		}
		for value := range most + 1 {
			if changed, ok := impl.ChangesRun(w, list, name, value); changed && ok {
				found[value]++
				checkLeast(t, w, list, name, most, value)
				return
			}
		}
		none++
		checkNoLeast(t, w, list, name, most)
	})
	if none < 100 || len(found) < 6 || found[0] < 50 {
		t.Errorf("too few of some kind: %d without, and %v", none, found)
	}
}

// TestObserversChangeNoValue weaves with observers: the run has the same value and prints among its own, unless its steps do not suffice.
func TestObserversChangeNoValue(t *testing.T) {
	r := rand.New(rand.NewSource(31))
	ends, more, quiet := map[string]int{}, 0, 0
	eachWeaving(r, 6000, func(names string, bodies []string, list []impl.Aspect, name string, value int) {
		w := programText(names, bodies)
		texts := quietTexts
		if r.Intn(2) == 0 {
			texts = printingTexts
		}
		for i := range list {
			a, _ := impl.ParseAspect(texts[r.Intn(len(texts))])
			list[i].Kind, list[i].Body = a.Kind, a.Body
		}
		if !impl.AreObservers(list) {
			t.Fatalf("%q are no observers", list)
		}
		plain, _ := impl.RunProgram(w, name, value)
		woven, _ := impl.RunWoven(w, list, name, value)
		ends[woven.End]++
		if woven.End == "long" {
			return
		}
		if woven.End != plain.End || woven.Value != plain.Value || woven.Steps < plain.Steps || !impl.IsPartOf(plain.Out, woven.Out) {
			t.Fatalf("%q, %q, %q, %d: %v, woven %v", w, list, name, value, plain, woven)
		}
		checkPart(t, woven.Out, plain.Out, len(woven.Out) == len(plain.Out))
		checkChanges(t, w, list, name, value, len(woven.Out) > len(plain.Out))
		if len(woven.Out) > len(plain.Out) {
			more++
		}
		if impl.AreQuiet(list) {
			quiet++
			checkChanges(t, w, list, name, value, false)
		}
	})
	if ends["done"] < 1000 || ends["deep"] < 100 || ends["long"] < 100 || more < 500 || quiet < 500 {
		t.Errorf("too few of some kind: %v, %d that print more, %d quiet", ends, more, quiet)
	}
}

// TestAdviceAtDifferentShadowsMayChangePlaces weaves with lists in both orders: the outcome is the same, also its steps, and so are join points and counts.
func TestAdviceAtDifferentShadowsMayChangePlaces(t *testing.T) {
	r := rand.New(rand.NewSource(32))
	ends, others := map[string]int{}, 0
	eachWeaving(r, 8000, func(names string, bodies []string, list []impl.Aspect, name string, value int) {
		if len(list) < 2 {
			return
		}
		w, i := programText(names, bodies), r.Intn(len(list)-1)
		k := string(names[r.Intn(len(names))])
		for n, cuts := range [][]string{{"P", "!P", "T", "W" + k, "&PF" + k, "&!PF" + k}, {"C" + k, "!W" + k, "P", "!P", "&C" + k + "F" + k, "&P!W" + k}} {
			list[i+n].Cut = cuts[r.Intn(len(cuts))]
		}
		swapped, ok := impl.SwapAspects(list, i)
		if !ok || impl.CanSwap(w, swapped, i) != impl.CanSwap(w, list, i) {
			t.Fatalf("%q, %q: SwapAspects %q, %v", w, list, swapped, ok)
		}
		before, after := weaveWhole(t, w, list, name, value), weaveWhole(t, w, swapped, name, value)
		counts := strings.Fields(after.counts)
		counts[i], counts[i+1] = counts[i+1], counts[i]
		after.counts = strings.Join(counts, " ")
		if !impl.CanSwap(w, list, i) {
			if before != after {
				others++
			}
			return
		}
		if before != after {
			t.Fatalf("%q, %q, %d, %q, %d: %+v, swapped %+v", w, list, i, name, value, before, after)
		}
		words := strings.Fields(before.outcome)
		ends[words[len(words)-2]]++
	})
	if ends["done"] < 500 || ends["deep"] < 50 || ends["long"] < 50 || others < 200 {
		t.Errorf("too few that may change places: %v, or that may not and are not the same: %d", ends, others)
	}
}

// TestEffectsAreTheSameAgain asks in several goroutines at once. The arguments stay as they are, beyond their length too, and results share no memory.
func TestEffectsAreTheSameAgain(t *testing.T) {
	w := printsFrom(21) + "PCb;b:P"
	room := aspectsOf(t, "before &P!Wb ?[P][]", "after Cb ?[][]", "around T KK", "before N ", "before T ")
	list, before := room[:2], slices.Clone(room)
	numbers := []int{1, 2, 3, 1, 2, 3}
	var running sync.WaitGroup
	for range 10 {
		running.Add(1)
		go func() {
			defer running.Done()
			for range 20 {
				checkLeast(t, w, list, "a", 60, 21)
				checkChanges(t, w, list, "a", 20, false)
				checkObservers(t, list, true, false)
				checkPart(t, numbers[:2], numbers[:4], true)
				checkOverlap(t, w, list[0], room[4], "print in a, print in a")
				checkSwapped(t, list, 0, []impl.Aspect{before[1], before[0]})
				swapped, _ := impl.SwapAspects(list, 0)
				overlap, _ := impl.OverlapOf(w, list[0], room[4])
				clear(swapped[:cap(swapped)])
				clear(overlap[:cap(overlap)])
			}
		}()
	}
	running.Wait()
	if !slices.Equal(room, before) || !slices.Equal(numbers, []int{1, 2, 3, 1, 2, 3}) {
		t.Errorf("the arguments became %q and %v", room, numbers)
	}
}
