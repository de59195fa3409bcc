package tests

import (
	"math"
	"math/rand"
	"slices"
	"strings"
	"sync"
	"testing"

	"loop.example/wovenprograms/impl"
)

// A counted is all that is counted of a run without a cut; tree is empty where it is too long.
type counted struct {
	calls   string
	prints  string
	busiest string
	tree    string
}

func countWhole(t *testing.T, w string, name string, value int) counted {
	t.Helper()
	calls, called := impl.CallCounts(w, name, value)
	prints, printed := impl.PrintCounts(w, name, value)
	if !called || !printed {
		t.Fatalf("%q, %q, %d: CallCounts %v, PrintCounts %v, want a run", w, name, value, called, printed)
	}
	tree, fits := impl.CallTree(w, name, value)
	if fits != (tree != "") {
		t.Errorf("CallTree(%q, %q, %d) = %q, %v", w, name, value, tree, fits)
	}
	return counted{numbersText(calls), numbersText(prints), impl.BusiestOf(w, name, value), tree}
}

func checkCounted(t *testing.T, w string, name string, value int, want counted) {
	t.Helper()
	if got := countWhole(t, w, name, value); got != want {
		t.Errorf("%q, %q, %d: %+v, want %+v", w, name, value, got, want)
	}
}

// checkCutCount asks how many join points a cut has, and for the index of the first one.
func checkCutCount(t *testing.T, w string, name string, value int, s string, count int, first int) {
	t.Helper()
	if got := impl.CountCut(w, name, value, s); got != count {
		t.Errorf("CountCut(%q, %q, %d, %q) = %d, want %d", w, name, value, s, got, count)
	}
	if got := impl.FirstMatch(w, name, value, s); got != first {
		t.Errorf("FirstMatch(%q, %q, %d, %q) = %d, want %d", w, name, value, s, got, first)
	}
}

// noCuts are texts that are none, the last one since it is too long.
var noCuts = []string{"", " ", "x", "p", "PP", "P ", "!", "&", "&P", "|PT!", "C", "CA", "Cab", "W", "F1", "K", "?[P][]", "a:P", "P\x00", "\xff", strings.Repeat("!", 40) + "P"}

func checkNothingCounted(t *testing.T, w string, name string, value int) {
	t.Helper()
	for _, s := range append([]string{"P", "T", "N", "!T", "Ca", "!Ca", "Wa", "|FaFz", strings.Repeat("!", 39) + "P"}, noCuts...) {
		checkCutCount(t, w, name, value, s, -1, -2)
	}
	if list, ok := impl.CallCounts(w, name, value); ok || len(list) != 0 {
		t.Errorf("CallCounts(%q, %q, %d) = %v, %v, want none", w, name, value, list, ok)
	}
	if list, ok := impl.PrintCounts(w, name, value); ok || len(list) != 0 {
		t.Errorf("PrintCounts(%q, %q, %d) = %v, %v, want none", w, name, value, list, ok)
	}
	if got := twoOf(impl.CallTree(w, name, value)); got != none {
		t.Errorf("CallTree(%q, %q, %d) = %q, want none", w, name, value, got)
	}
	if got := impl.BusiestOf(w, name, value); got != "" {
		t.Errorf("BusiestOf(%q, %q, %d) = %q, want none", w, name, value, got)
	}
}

func TestCountsOfRuns(t *testing.T) {
	for _, c := range []struct {
		w     string
		name  string
		value int
		want  counted
	}{
		{"a:CbCcP;b:Cc;c:P", "a", 0, counted{"0 1 2", "1 0 2", "c", "a(b(c)c)"}},
		{"a:CbCcP;b:Cc;c:P", "b", 0, counted{"0 0 1", "0 0 1", "c", "b(c)"}},
		{"a:CbCcP;b:Cc;c:P", "c", 0, counted{"0 0 0", "0 0 1", "", "c"}},
		// Without join points.
		{"a:", "a", 0, counted{"0", "0", "", "a"}},
		{"z:+1?[-9*0][]", "z", 7, counted{"0", "0", "", "z"}},
		{"a:?[Cb][];b:P", "a", 0, counted{"0 0", "0 0", "", "a"}},
		{"a:?[Cb][];b:P", "a", 1, counted{"0 1", "0 1", "b", "a(b)"}},
		// Procedures that are never called, though they call or print.
		{"a:Cc;b:PCc;c:P;d:CaP;e:", "a", 0, counted{"0 0 1 0 0", "0 0 1 0 0", "c", "a(c)"}},
		// The first one of the program is not the first of the run.
		{"a:P;b:P;c:PCaPCaP", "c", 0, counted{"2 0 0", "2 0 3", "a", "c(aa)"}},
		{"b:Cc;c:PCd;d:P;e:Cb", "c", 0, counted{"0 0 1 0", "0 1 1 0", "d", "c(d)"}},
		// Procedures that call themselves, directly or not.
		{"x:?[P-1Cx][]", "x", 3, counted{"3", "3", "x", "x(x(x(x)))"}},
		{"a:?[-1CaCa][]", "a", 2, counted{"4", "0", "a", "a(a(aa)a)"}},
		{"x:?[-1CyP][];y:?[-1CxP][]", "x", 3, counted{"1 2", "2 1", "y", "x(y(x(y)))"}},
		{"x:?[-1CyP][];y:?[-1CxP][]", "y", 3, counted{"2 1", "1 2", "x", "y(x(y(x)))"}},
		// Names that are not the first letters.
		{"m:CqCzP;q:P;z:CqCq", "m", 0, counted{"0 3 1", "1 3 0", "q", "m(qz(qq))"}},
		{"g:PP;y:CgCzCg;z:P", "y", 0, counted{"2 0 1", "4 0 1", "g", "y(gzg)"}},
		// Several procedures with the most calls: the first one of the program, not of the run.
		{"a:CcCb;b:;c:", "a", 0, counted{"0 1 1", "0 0 0", "b", "a(cb)"}},
		{"k:CzCzCmCm;m:;z:", "k", 0, counted{"0 2 2", "0 0 0", "m", "k(zzmm)"}},
		{"k:CzCmCzCmCz;m:;z:", "k", 0, counted{"0 2 3", "0 0 0", "z", "k(zmzmz)"}},
		{"a:Cd;b:;c:Cb;d:CcCcCd?[][Ce];e:Cb", "c", 0, counted{"0 1 0 0 0", "0 0 0 0 0", "b", "c(b)"}},
		{"a:Cb;b:?[-1CaCc][];c:", "a", 2, counted{"2 3 2", "0 0 0", "b", "a(b(a(b(a(b)c))c))"}},
		// Brackets behind brackets.
		{"a:CbCcCb;b:Cd;c:CbCd;d:P", "a", 0, counted{"0 3 1 4", "0 0 0 4", "d", "a(b(d)c(b(d)d)b(d))"}},
		{"a:CbCb;b:CcCc;c:CdCd;d:", "a", 0, counted{"0 2 4 8", "0 0 0 0", "d", "a(b(c(dd)c(dd))b(c(dd)c(dd)))"}},
		{"a:CbCb;b:", "a", 0, counted{"0 2", "0 0", "b", "a(bb)"}},
		{"a:CbCcCb;b:Cc;c:", "a", 0, counted{"0 2 3", "0 0 0", "c", "a(b(c)cb(c))"}},
		{"a:?[-1CaCbCa][Cb];b:P", "a", 1, counted{"2 3", "0 3", "b", "a(a(b)ba(b))"}},
		// Prints of one procedure between calls of others.
		{"a:PCbPCbP;b:PCcP;c:PP", "a", 0, counted{"0 2 2", "3 4 4", "b", "a(b(c)b(c))"}},
	} {
		checkCounted(t, c.w, c.name, c.value, c.want)
	}
}

func TestCountsOfCuts(t *testing.T) {
	w := "a:PCbCc;b:?[P-1CcCb][];c:P"
	for s, want := range map[string][2]int{
		// All of them, and none.
		"T": {8, 0}, "!N": {8, 0}, "Fa": {8, 0}, "|P!P": {8, 0}, "||WaWbWc": {8, 0}, "!Fz": {8, 0},
		"N": {0, -1}, "!T": {0, -1}, "Ca": {0, -1}, "Cz": {0, -1}, "Wz": {0, -1}, "Fz": {0, -1}, "!Fa": {0, -1}, "&CbP": {0, -1}, "&WaWb": {0, -1}, "&P!P": {0, -1},
		// Just the first one, just the last one, and all but these.
		"&PWa": {1, 0}, "&Wc!Fb": {1, 7}, "!&PWa": {7, 1}, "!&Wc!Fb": {7, 0}, "|&PWa&Wc!Fb": {2, 0},
		"P": {4, 0}, "!P": {4, 1}, "Cb": {2, 1}, "Cc": {2, 3}, "Wa": {3, 0}, "Wb": {3, 2}, "Wc": {2, 4}, "Fb": {4, 2}, "Fc": {2, 4},
		"&PFb": {2, 2}, "&CcFb": {1, 3}, "&CcWa": {1, 6}, "&CbFb": {1, 5}, "&PFc": {2, 4}, "!|PCb": {2, 3}, "&WcFb": {1, 4},
	} {
		checkCutCount(t, w, "a", 1, s, want[0], want[1])
	}
	checkCutCount(t, w, "b", 1, "Fa", 0, -1)
	checkCutCount(t, w, "b", 1, "Fb", 4, 0)
	checkCutCount(t, w, "b", 1, "Wc", 1, 2)
	checkCutCount(t, w, "c", 0, "P", 1, 0)
	checkCutCount(t, w, "a", 1, strings.Repeat("!", 39)+"P", 4, 1)
	checkCutCount(t, w, "a", 1, strings.Repeat("!", 38)+"P", 4, 0)
	for _, s := range []string{"T", "N", "P", "!P", "Ca", "!Cb", "Wa", "Fa", "!Fa"} {
		checkCutCount(t, "a:+1?[][Cb];b:P", "a", 0, s, 0, -1)
	}
	for _, value := range []int{-9999, -1, 0, 1, 9999} {
		checkCutCount(t, "a:?[P][Cb];b:", "a", value, "T", 1, 0)
		if value > 0 {
			checkCounted(t, "a:?[P][Cb];b:", "a", value, counted{"0 0", "1 0", "", "a"})
		} else {
			checkCounted(t, "a:?[P][Cb];b:", "a", value, counted{"0 1", "0 0", "b", "a(b)"})
		}
	}
}

// TestCountsOfLongRuns counts the join point at which a run ends, too.
func TestCountsOfLongRuns(t *testing.T) {
	bs, early := "bbbbbbbbbb", "a(bbbbbbbbb"
	for _, c := range []struct {
		steps  int
		behind string
		all    int
		want   counted
	}{
		// A print whose step is the last one, and one whose step is not done.
		{499, "P", 10, counted{"0 9 0", "1 0 0", "b", early + ")"}},
		{500, "P", 11, counted{"0 10 0", "1 0 0", "b", "a(" + bs + ")"}},
		{500, "PP", 11, counted{"0 10 0", "1 0 0", "b", "a(" + bs + ")"}},
		{499, "PPP", 11, counted{"0 9 0", "2 0 0", "b", early + ")"}},
		{500, "+0PCc", 10, counted{"0 10 0", "0 0 0", "b", "a(" + bs + ")"}},
		// A call at the last step, behind which a print ends the run, and one whose step is not done.
		{498, "Cc", 11, counted{"0 9 1", "0 0 1", "b", early + "c)"}},
		{499, "Cc", 11, counted{"0 9 1", "0 0 1", "b", early + "c)"}},
		{499, "CcCc", 11, counted{"0 9 1", "0 0 1", "b", early + "c)"}},
		{500, "Cc", 11, counted{"0 10 1", "0 0 0", "b", "a(" + bs + "c)"}},
		{500, "CcCcP", 11, counted{"0 10 1", "0 0 0", "b", "a(" + bs + "c)"}},
		{500, "Cb", 11, counted{"0 11 0", "0 0 0", "b", "a(" + bs + "b)"}},
		{500, "Ca", 11, counted{"1 10 0", "0 0 0", "b", "a(" + bs + "a)"}},
		{497, "CcCcP", 13, counted{"0 9 2", "0 0 2", "b", early + "cc)"}},
	} {
		w, _ := afterSteps(c.steps, c.behind)
		checkCounted(t, w, "a", 3, c.want)
		checkCutCount(t, w, "a", 3, "T", c.all, 0)
		checkCutCount(t, w, "a", 3, "N", 0, -1)
	}
	// The first and only one that a cut has is the one at which the run ends.
	w, _ := afterSteps(500, "P")
	checkCutCount(t, w, "a", 3, "P", 1, 10)
	w, _ = afterSteps(500, "Cc")
	checkCutCount(t, w, "a", 3, "Cc", 1, 10)
	checkCutCount(t, w, "a", 3, "Fc", 0, -1)
	w, _ = afterSteps(499, "Cc")
	checkCutCount(t, w, "a", 3, "&PFc", 1, 10)
	// Behind a call at the last step, an empty procedure is done, and the next call is not.
	w, _ = afterSteps(499, "CcCcP")
	w = strings.TrimSuffix(w, "P")
	checkCounted(t, w, "a", 3, counted{"0 9 2", "0 0 0", "b", early + "cc)"})
	checkCutCount(t, w, "a", 3, "P", 0, -1)
	checkCutCount(t, w, "a", 3, "Cc", 2, 9)
	// As many join points as a run can have, and procedures that ran out of steps within calls.
	prints := "a:" + strings.Repeat("Cb", 20) + ";b:" + strings.Repeat("P", 49)
	checkCounted(t, prints, "a", 0, counted{"0 11", "0 490", "b", "a(bbbbbbbbbbb)"})
	checkCutCount(t, prints, "a", 0, "T", 501, 0)
	checkCutCount(t, prints, "a", 0, "P", 490, 1)
	checkCounted(t, prints+"P", "a", 0, counted{"0 10", "0 491", "b", "a(bbbbbbbbbb)"})
}

func TestCountsOfDeepRuns(t *testing.T) {
	as := strings.Repeat("a(", 20) + "a" + strings.Repeat(")", 20)
	checkCounted(t, "a:Ca", "a", 0, counted{"20", "0", "a", as})
	checkCounted(t, "a:PCaP", "a", 0, counted{"20", "20", "a", as})
	checkCutCount(t, "a:PCaP", "a", 0, "T", 40, 0)
	checkCutCount(t, "a:PCaP", "a", 0, "P", 20, 0)
	checkCutCount(t, "a:PCaP", "a", 0, "Ca", 20, 1)
	checkCutCount(t, "a:CaP", "a", 0, "P", 0, -1)
	// As deep as procedures may be active, and one deeper.
	down := "a:?[-1CaP][P]"
	checkCounted(t, down, "a", 18, counted{"18", "19", "a", as[4 : len(as)-2]})
	checkCounted(t, down, "a", 19, counted{"19", "20", "a", as[2 : len(as)-1]})
	checkCounted(t, down, "a", 20, counted{"20", "0", "a", as})
	checkCounted(t, down, "a", 9999, counted{"20", "0", "a", as})
	// The last call is the only one of its procedure, which never runs.
	z := "a:?[-1Ca][Cb];b:Cz;z:P"
	checkCounted(t, z, "a", 17, counted{"17 1 1", "0 0 1", "a", strings.Repeat("a(", 18) + "b(z" + strings.Repeat(")", 19)})
	checkCounted(t, z, "a", 18, counted{"18 1 1", "0 0 0", "a", strings.Repeat("a(", 19) + "b(z" + strings.Repeat(")", 20)})
	checkCounted(t, z, "a", 19, counted{"19 1 0", "0 0 0", "a", strings.Repeat("a(", 20) + "b" + strings.Repeat(")", 20)})
	checkCutCount(t, z, "a", 17, "Cz", 1, 18)
	checkCutCount(t, z, "a", 17, "Fz", 1, 19)
	checkCutCount(t, z, "a", 18, "Cz", 1, 19)
	checkCutCount(t, z, "a", 18, "Fz", 0, -1)
	checkCutCount(t, z, "a", 19, "Cz", 0, -1)
	// Calls that were done before stand in front of those that go down.
	checkCounted(t, "a:CbPCa;b:P", "a", 0, counted{"19 20", "19 19", "b", strings.Repeat("a(b", 20) + strings.Repeat(")", 20)})
	// A call that is too deep at the last step, and one that would be so if its step were done.
	for n, end := range map[int]string{24: "deep", 25: "long"} {
		w := "a:" + strings.Repeat("+0", 24) + "Ca;z:" + strings.Repeat("+0", n) + "Ca"
		if o, _ := impl.RunProgram(w, "z", 0); o.End != end || o.Steps != 500 {
			t.Errorf("%q ends with %q after %d steps", w, o.End, o.Steps)
		}
		checkCounted(t, w, "z", 0, counted{"20 0", "0 0", "a", "z" + as[1:]})
		checkCutCount(t, w, "z", 0, "Ca", 20, 0)
	}
}

func TestCountsOfTwentySixProcedures(t *testing.T) {
	w := chain(letters, "P")
	zeros := strings.Repeat("0 ", 25)
	deepest := strings.Join(strings.Split(letters[5:], ""), "(") + strings.Repeat(")", 20)
	checkCounted(t, w, "z", 0, counted{zeros + "0", zeros + "1", "", "z"})
	checkCounted(t, w, "y", 0, counted{zeros + "1", zeros + "1", "z", "y(z)"})
	checkCounted(t, w, "g", 0, counted{strings.Repeat("0 ", 7) + strings.Repeat("1 ", 18) + "1", zeros + "1", "h", deepest[2 : len(deepest)-1]})
	checkCounted(t, w, "f", 0, counted{strings.Repeat("0 ", 6) + strings.Repeat("1 ", 19) + "1", zeros + "0", "g", deepest})
	checkCounted(t, w, "a", 0, counted{"0 " + strings.Repeat("1 ", 20) + strings.TrimSpace(strings.Repeat("0 ", 5)), zeros + "0", "b", strings.Join(strings.Split(letters[:21], ""), "(") + strings.Repeat(")", 20)})
	for i, name := range letters {
		s := string(name)
		count, first := 0, -1
		if i > 0 && i <= 20 {
			count, first = 1, i-1
		}
		checkCutCount(t, w, "a", 0, "C"+s, count, first)
	}
	// The first twelve are called by the last one, each as often as its place.
	calls, counts := "", make([]int, 26)
	for i := range 12 {
		calls += strings.Repeat("C"+letters[i:i+1], i+1)
		counts[i] = i + 1
	}
	w = strings.Join(strings.Split(letters[:25], ""), ":P;") + ":P;z:" + calls
	checkCounted(t, w, "z", 0, counted{numbersText(counts), numbersText(counts), "l", "z(" + strings.ReplaceAll(calls, "C", "") + ")"})
}

// wideTree returns a program whose tree of calls has 291 bytes, and one more for each call behind the others.
func wideTree(behind string) string {
	return "a:" + strings.Repeat("Cb", 24) + behind + ";b:" + strings.Repeat("Cd", 9) + ";c:;d:+0"
}

func TestLimitOfTrees(t *testing.T) {
	b := "b(ddddddddd)"
	for cs, fits := range map[int]bool{0: true, 7: true, 8: true, 9: true, 10: false, 11: false, 40: false} {
		want := counted{numbersText([]int{0, 24, cs, 216}), "0 0 0 0", "d", ""}
		if fits {
			want.tree = "a(" + strings.Repeat(b, 24) + strings.Repeat("c", cs) + ")"
		}
		w := wideTree(strings.Repeat("Cc", cs))
		checkCounted(t, w, "a", 0, want)
		checkCutCount(t, w, "a", 0, "!P", 240+cs, 0)
		if want.tree != "" && len(want.tree) != 291+cs {
			t.Errorf("the tree has %d bytes", len(want.tree))
		}
	}
	// A call at which the run ends, at the end of a tree of 300 bytes: 500 steps are done before the last call, or 499 before the one in front of it.
	ends := "a(" + strings.Repeat(b, 24) + "ccccccccc)"
	full := strings.Repeat("Cc", 8) + strings.Repeat("+0", 36)
	checkCounted(t, wideTree(full+"CcCc"), "a", 0, counted{"0 24 9 216", "0 0 0 0", "d", ends})
	checkCounted(t, wideTree(full[2:]+"CcCc"), "a", 0, counted{"0 24 9 216", "0 0 0 0", "d", ends})
	checkCounted(t, wideTree(full[:len(full)-2]+"CcCc"), "a", 0, counted{"0 24 10 216", "0 0 0 0", "d", ""})
	// Brackets alone make it too long.
	nests, zeros := ";b:Cc;c:Cd;d:Ce;e:CfCfCf;f:Cg;g:Ch;h:", "0 0 0 0 0 0 0 0"
	tree := "a(" + strings.Repeat("b(c(d(e(f(g(h))f(g(h))f(g(h))))))", 9) + ")"
	checkCounted(t, "a:"+strings.Repeat("Cb", 9)+nests, "a", 0, counted{"0 9 9 9 9 27 27 27", zeros, "f", tree})
	checkCounted(t, "a:"+strings.Repeat("Cb", 9)+"Ch"+nests, "a", 0, counted{"0 9 9 9 9 27 27 28", zeros, "h", ""})
	checkCounted(t, "a:"+strings.Repeat("Cb", 9)+nests+"P", "a", 0, counted{"0 9 9 9 9 27 27 27", "0 0 0 0 0 0 0 27", "f", tree})
	// As many calls as a run can have.
	many := "a:CbCbCbCbCbCbCb;b:CcCcCcCcCcCc;c:CdCdCdCdCd;d:"
	checkCounted(t, many, "a", 0, counted{"0 7 42 210", "0 0 0 0", "d", ""})
	twice := "a:CbCb;b:CcCc;c:CdCd;d:CeCe;e:CfCf;f:CgCg;g:ChCh;h:CiCi;i:"
	checkCounted(t, twice, "a", 0, counted{"0 2 4 8 16 32 63 126 250", "0 0 0 0 0 0 0 0 0", "i", ""})
	checkCutCount(t, twice, "a", 0, "T", 501, 0)
	checkCounted(t, twice, "d", 0, counted{"0 0 0 0 2 4 8 16 32", "0 0 0 0 0 0 0 0 0", "i", "d(" + strings.Repeat("e("+strings.Repeat("f("+strings.Repeat("g("+strings.Repeat("h(ii)", 2)+")", 2)+")", 2)+")", 2) + ")"})
}

func TestNothingToCount(t *testing.T) {
	w := "a:PCb;b:P"
	for _, name := range append([]string{"c", "z", "Ca"}, wrongNames...) {
		checkNothingCounted(t, w, name, 0)
	}
	for _, value := range []int{-10000, 10000, -10001, 10001, 20000, math.MinInt, math.MaxInt, math.MinInt32, math.MaxInt32, 1 << 40, -1 << 40} {
		checkNothingCounted(t, w, "a", value)
		checkNothingCounted(t, "a:", "a", value)
	}
	for _, text := range noPrograms {
		checkNothingCounted(t, text, "a", 0)
		checkNothingCounted(t, text, "", 0)
		checkNothingCounted(t, text, "a", 10000)
	}
	// Texts that are no cut, where there is a run.
	for _, s := range noCuts {
		for _, value := range []int{-9999, 0, 9999} {
			checkCutCount(t, w, "a", value, s, -1, -2)
			checkCutCount(t, "a:", "a", value, s, -1, -2)
		}
	}
	checkCutCount(t, w, "a", 0, strings.Repeat("!P", 500000), -1, -2)
	checkCounted(t, w, "a", 0, counted{"0 1", "1 1", "b", "a(b)"})
}

// countOfPoints counts in the texts of join points alone, and makes the tree of the lengths of their stacks.
func countOfPoints(names string, first string, points []string) counted {
	var calls, prints []int
	want, most := counted{tree: first}, 0
	for _, each := range names {
		called, printed := 0, 0
		for _, j := range points {
			if strings.HasPrefix(j, "call "+string(each)+" in ") {
				called++
			}
			if strings.HasPrefix(j, "print in ") && strings.HasSuffix(j, string(each)) {
				printed++
			}
		}
		calls, prints = append(calls, called), append(prints, printed)
		if called > most {
			want.busiest, most = string(each), called
		}
	}
	open := 0
	for _, j := range points {
		if words := strings.Fields(j); words[0] == "call" {
			want.tree += strings.Repeat("(", max(len(words[3])-1-open, 0)) + strings.Repeat(")", max(open-len(words[3])+1, 0))
			open = len(words[3]) - 1
			want.tree += "(" + words[1] + ")"
		}
	}
	want.tree = strings.ReplaceAll(want.tree+strings.Repeat(")", open), ")(", "")
	if len(want.tree) > 300 {
		want.tree = ""
	}
	want.calls, want.prints = numbersText(calls), numbersText(prints)
	return want
}

// wideBodies returns bodies of procedures that call later ones many times.
func wideBodies(r *rand.Rand, names string) []string {
	var bodies []string
	for i := range names {
		body := []string{"", "P", "-1"}[r.Intn(3)]
		for range 3 + r.Intn(4) {
			if later := names[i+1:]; later != "" {
				k := r.Intn(min(2, len(later)))
				body += "C" + later[k:k+1]
			}
		}
		bodies = append(bodies, body)
	}
	return bodies
}

// eachCounting visits runs of random programs.
func eachCounting(r *rand.Rand, times int, visit func(names string, bodies []string, name string, value int)) {
	for i := range times {
		names, bodies := randomProgram(r)
		switch i % 5 {
		case 0:
			names = "bdnz"
			bodies = layeredBodies(r, names)
		case 1, 2:
			names = []string{"a", "mq", "acz", "bcyz"}[r.Intn(4)]
			bodies = callingBodies(r, names)
		case 3:
			names = "behkm"
			bodies = wideBodies(r, names)
		}
		if len(programText(names, bodies)) > 400 {
			continue
		}
		k, value := r.Intn(len(names)), randomValue(r)
		if i%5 == 3 {
			// The last ones call little.
			k = r.Intn(2)
		}
		if r.Intn(2) == 0 {
			value = r.Intn(8)
		}
		visit(names, bodies, names[k:k+1], value)
	}
}

func TestCountsAsTexts(t *testing.T) {
	r := rand.New(rand.NewSource(33))
	ends, long, short := map[string]int{}, 0, 0
	eachCounting(r, 6000, func(names string, bodies []string, name string, value int) {
		w, run := programText(names, bodies), runOfTexts(names, bodies, name, value)
		var points []string
		if run.points != "" {
			points = strings.Split(run.points, ", ")
		}
		want := countOfPoints(names, name, points)
		checkCounted(t, w, name, value, want)
		words := strings.Fields(run.outcome)
		ends[words[len(words)-2]]++
		switch {
		case want.tree == "":
			long++
		case strings.Contains(want.tree, "))"):
			short++
		}
		for range 3 {
			s, count, first := randomCut(r, names+"q", 2), 0, -1
			list, _ := impl.JoinPointsOf(w, name, value)
			for i, j := range slices.Backward(list) {
				if isIn(s, j) {
					count, first = count+1, i
				}
			}
			checkCutCount(t, w, name, value, s, count, first)
		}
	})
	if ends["done"] < 500 || ends["long"] < 100 || ends["deep"] < 100 || long < 100 || short < 500 {
		t.Errorf("too few of some kind: %v, %d trees that are too long, %d with brackets within brackets", ends, long, short)
	}
}

// readTree returns the calls of a tree as the texts of their join points.
func readTree(tree string) string {
	var calls []string
	stack, last := "", tree[:1]
	for i := 1; i < len(tree); i++ {
		switch tree[i] {
		case '(':
			stack += last
		case ')':
			stack = stack[:len(stack)-1]
		default:
			last = tree[i : i+1]
			calls = append(calls, "call "+last+" in "+stack)
		}
	}
	return strings.Join(calls, ", ")
}

// TestTreeHasAllCalls reads the calls out of trees, with what is active at each of them.
func TestTreeHasAllCalls(t *testing.T) {
	r := rand.New(rand.NewSource(34))
	read, deep := 0, 0
	eachCounting(r, 4000, func(names string, bodies []string, name string, value int) {
		w := programText(names, bodies)
		tree, fits := impl.CallTree(w, name, value)
		calls, _ := impl.MatchesOf(w, name, value, "!P")
		if !fits {
			return
		}
		if got := readTree(tree); got != pointsText(calls) || tree[:1] != name {
			t.Fatalf("%q, %q, %d: the tree %q has %q, want %q", w, name, value, tree, got, pointsText(calls))
		}
		if strings.Contains(tree, "()") || strings.Count(tree, "(") != strings.Count(tree, ")") {
			t.Fatalf("%q, %q, %d: the tree %q has other brackets", w, name, value, tree)
		}
		counts, _ := impl.CallCounts(w, name, value)
		for i := range names {
			n := strings.Count(tree, names[i:i+1])
			if names[i:i+1] == name {
				n--
			}
			if counts[i] != n {
				t.Fatalf("%q, %q, %d: the tree %q has not the calls %v", w, name, value, tree, counts)
			}
		}
		depth := 0
		for i := range tree {
			depth = max(depth, 1+strings.Count(tree[:i+1], "(")-strings.Count(tree[:i+1], ")"))
		}
		// The last call may be one too deep, or one whose step is not done.
		o, _ := impl.RunProgram(w, name, value)
		active := impl.DepthOf(w, name, value)
		if depth != active && (o.End == "done" || depth != active+1) || o.End == "deep" && depth != 21 {
			t.Fatalf("%q, %q, %d: the tree %q is %d deep, DepthOf %d", w, name, value, tree, depth, active)
		}
		read += len(calls)
		if depth == 21 {
			deep++
		}
	})
	if read < 5000 || deep < 100 {
		t.Errorf("too few calls in trees: %d, or too few deep trees: %d", read, deep)
	}
}

func sumOf(list []int) int {
	n := 0
	for _, each := range list {
		n += each
	}
	return n
}

// firstOf returns the first one of two indices, of which -1 is none.
func firstOf(i int, j int) int {
	if i < 0 || j >= 0 && j < i {
		return j
	}
	return i
}

// TestCountsAddUp counts the join points of cuts that have what others have together.
func TestCountsAddUp(t *testing.T) {
	r := rand.New(rand.NewSource(35))
	found := 0
	eachCounting(r, 3000, func(names string, bodies []string, name string, value int) {
		w := programText(names, bodies)
		count := func(s string) int { return impl.CountCut(w, name, value, s) }
		first := func(s string) int { return impl.FirstMatch(w, name, value, s) }
		points, _ := impl.JoinPointsOf(w, name, value)
		calls, _ := impl.CallCounts(w, name, value)
		prints, _ := impl.PrintCounts(w, name, value)
		busiest := impl.BusiestOf(w, name, value)
		if count("T") != len(points) || count("N") != 0 || count("P") != sumOf(prints) || count("!P") != sumOf(calls) || len(calls) != len(names) || len(prints) != len(names) {
			t.Fatalf("%q, %q, %d: calls %v and prints %v of %d join points", w, name, value, calls, prints, len(points))
		}
		within := 0
		for i, each := range names {
			s := string(each)
			within += count("W" + s)
			if count("C"+s) != calls[i] || count("&PW"+s) != prints[i] || count("F"+s) < count("W"+s) {
				t.Fatalf("%q, %q, %d: calls %v and prints %v", w, name, value, calls, prints)
			}
			if calls[i] > 0 && (calls[i] > count("C"+busiest) || s < busiest && calls[i] == count("C"+busiest)) {
				t.Fatalf("%q, %q, %d: BusiestOf %q of the calls %v", w, name, value, busiest, calls)
			}
		}
		if within != len(points) || (busiest == "") != (sumOf(calls) == 0) || count("F"+name) != len(points) {
			t.Fatalf("%q, %q, %d: %d join points within procedures, BusiestOf %q", w, name, value, within, busiest)
		}
		a, b := randomCut(r, names+"q", 1), randomCut(r, names+"q", 1)
		if count(a)+count("!"+a) != len(points) || count("|"+a+b)+count("&"+a+b) != count(a)+count(b) || count("&"+a+b)+count("&"+a+"!"+b) != count(a) {
			t.Fatalf("%q, %q, %d: %q and %q do not add up", w, name, value, a, b)
		}
		if first("|"+a+b) != firstOf(first(a), first(b)) || (first(a) == -1) != (count(a) == 0) || firstOf(first(a), first("!"+a)) != first("T") {
			t.Fatalf("%q, %q, %d: FirstMatch of %q is %d, and of %q %d", w, name, value, a, first(a), b, first(b))
		}
		if i := first(a); i >= 0 {
			found++
			if !impl.Matches(a, points[i]) || slices.Contains(chosenBy(a, points[:i]), true) {
				t.Fatalf("%q, %q, %d: FirstMatch of %q is %d", w, name, value, a, i)
			}
		}
	})
	if found < 500 {
		t.Errorf("just %d cuts have join points", found)
	}
}

// TestCountsOfProceduresNamedOtherwise counts in a program with a procedure named otherwise: the tree has other letters, and the counts change places.
func TestCountsOfProceduresNamedOtherwise(t *testing.T) {
	r := rand.New(rand.NewSource(36))
	times := 0
	eachCounting(r, 1500, func(names string, bodies []string, name string, value int) {
		w := programText(names, bodies)
		old, to := string(names[r.Intn(len(names))]), letters[r.Intn(26):][:1]
		renamed, ok := impl.RenameProc(w, old, to)
		if !ok {
			return
		}
		times++
		before, after := countWhole(t, w, name, value), countWhole(t, renamed, strings.ReplaceAll(name, old, to), value)
		if got := strings.ReplaceAll(before.tree, old, to); after.tree != got {
			t.Fatalf("%q, %q, %d: the tree of %q is %q, want %q", w, name, value, renamed, after.tree, got)
		}
		calls, prints := strings.Fields(before.calls), strings.Fields(before.prints)
		calledAfter, printedAfter := strings.Fields(after.calls), strings.Fields(after.prints)
		for i, each := range names {
			k := strings.Index(impl.ProcsOf(renamed), strings.ReplaceAll(string(each), old, to))
			if calls[i] != calledAfter[k] || prints[i] != printedAfter[k] {
				t.Fatalf("%q, %q, %d: %+v, and of %q %+v", w, name, value, before, renamed, after)
			}
		}
	})
	if times < 500 {
		t.Errorf("just %d programs were renamed", times)
	}
}

// TestCountingIsTheSameAgain counts in several goroutines at once. Results share no memory, and the order of the counts is always that of the names.
func TestCountingIsTheSameAgain(t *testing.T) {
	w := strings.Join(strings.Split(letters[:25], ""), ":P;") + ":P;z:CaCcCcCeCeCeCgPCyCyCyCx"
	want := counted{"1 0 2 0 3 0 1" + strings.Repeat(" 0", 16) + " 1 3 0", "1 0 2 0 3 0 1" + strings.Repeat(" 0", 16) + " 1 3 1", "e", "z(acceeegyyyx)"}
	var running sync.WaitGroup
	for range 10 {
		running.Add(1)
		go func() {
			defer running.Done()
			for range 30 {
				if got := countWhole(t, w, "z", 0); got != want {
					t.Errorf("%+v, want %+v", got, want)
				}
				checkCutCount(t, w, "z", 0, "Cy", 3, 15)
				calls, _ := impl.CallCounts(w, "z", 0)
				prints, _ := impl.PrintCounts(w, "z", 0)
				clear(calls[:cap(calls)])
				clear(prints[:cap(prints)])
			}
		}()
	}
	running.Wait()
	first, _ := impl.CallCounts(w, "z", 0)
	second, _ := impl.CallCounts(w, "z", 0)
	prints, _ := impl.PrintCounts(w, "z", 0)
	_ = append(first[:0], 9, 9, 9)
	if numbersText(second) != want.calls || numbersText(prints) != want.prints {
		t.Errorf("%v, %v after another result was changed", second, prints)
	}
}
