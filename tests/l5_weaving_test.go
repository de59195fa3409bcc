package tests

import (
	"math"
	"math/rand"
	"slices"
	"strconv"
	"strings"
	"testing"

	"loop.example/wovenprograms/impl"
)

// A wovenRun is all that is told of a run with advice.
type wovenRun struct {
	outcome string
	points  string
	counts  string
}

func numbersText(list []int) string {
	var parts []string
	for _, n := range list {
		parts = append(parts, strconv.Itoa(n))
	}
	return strings.Join(parts, " ")
}

// aspectsOf returns the aspects whose texts are given.
func aspectsOf(t *testing.T, texts ...string) []impl.Aspect {
	t.Helper()
	var list []impl.Aspect
	for _, s := range texts {
		a, ok := impl.ParseAspect(s)
		if !ok {
			t.Fatalf("ParseAspect(%q) is none", s)
		}
		list = append(list, a)
	}
	return list
}

// weaveWhole asks every function that runs a program with advice, and fails if one of them does not run it.
func weaveWhole(t *testing.T, w string, list []impl.Aspect, name string, value int) wovenRun {
	t.Helper()
	o, ran := impl.RunWoven(w, list, name, value)
	points, told := impl.WovenPoints(w, list, name, value)
	counts, counted := impl.AdviceCounts(w, list, name, value)
	if !ran || !told || !counted || len(counts) != len(list) {
		t.Fatalf("%q, %q, %q, %d: RunWoven %v, WovenPoints %v, AdviceCounts %v %v, want a run", w, list, name, value, ran, told, counts, counted)
	}
	return wovenRun{impl.FormatOutcome(o), pointsText(points), numbersText(counts)}
}

func checkWoven(t *testing.T, w string, list []impl.Aspect, name string, value int, want wovenRun) {
	t.Helper()
	if got := weaveWhole(t, w, list, name, value); got != want {
		t.Errorf("%q, %q, %q, %d: %+v, want %+v", w, list, name, value, got, want)
	}
}

func checkNotWoven(t *testing.T, w string, list []impl.Aspect, name string, value int) {
	t.Helper()
	o, ok := impl.RunWoven(w, list, name, value)
	if ok || o.Value != 0 || len(o.Out) != 0 || o.End != "" || o.Steps != 0 {
		t.Errorf("RunWoven(%q, %q, %q, %d) = %v, %v, want none", w, list, name, value, o, ok)
	}
	if points, ok := impl.WovenPoints(w, list, name, value); ok || len(points) != 0 {
		t.Errorf("WovenPoints(%q, %q, %q, %d) = %v, %v, want none", w, list, name, value, points, ok)
	}
	if counts, ok := impl.AdviceCounts(w, list, name, value); ok || len(counts) != 0 {
		t.Errorf("AdviceCounts(%q, %q, %q, %d) = %v, %v, want none", w, list, name, value, counts, ok)
	}
}

type wovenCase struct {
	w      string
	value  int
	advice []string
	want   wovenRun
}

func checkCases(t *testing.T, cases []wovenCase) {
	t.Helper()
	for _, c := range cases {
		checkWoven(t, c.w, aspectsOf(t, c.advice...), "a", c.value, c.want)
	}
}

func TestOneAdvice(t *testing.T) {
	w := "a:+1Cb*2P;b:+3"
	points := "call b in a, print in a"
	checkCases(t, []wovenCase{
		{w, 0, nil, wovenRun{"8: 8 done 5", points, ""}},
		{w, 0, []string{"before N P"}, wovenRun{"8: 8 done 5", points, "0"}},
		{w, 0, []string{"before Cb P"}, wovenRun{"8: 1 8 done 6", points, "1"}},
		{w, 0, []string{"before Cb "}, wovenRun{"8: 8 done 5", points, "1"}},
		{w, 0, []string{"before Cb *5"}, wovenRun{"16: 16 done 6", points, "1"}},
		{w, 0, []string{"after Cb P"}, wovenRun{"8: 4 8 done 6", points, "1"}},
		{w, 0, []string{"after Cb *5"}, wovenRun{"40: 40 done 6", points, "1"}},
		{w, 0, []string{"before P +9"}, wovenRun{"17: 17 done 6", points, "1"}},
		{w, 0, []string{"after P +9"}, wovenRun{"17: 8 done 6", points, "1"}},
		{w, 0, []string{"around Cb PK-1P"}, wovenRun{"6: 1 3 6 done 8", points, "1"}},
		{w, 0, []string{"around T PK"}, wovenRun{"8: 1 8 8 done 7", points, "2"}},
		// What was kept out is a join point all the same.
		{w, 0, []string{"around Cb "}, wovenRun{"2: 2 done 3", points, "1"}},
		{w, 0, []string{"around P "}, wovenRun{"8: done 4", points, "1"}},
		{w, 0, []string{"around T "}, wovenRun{"2: done 2", points, "2"}},
		{w, 0, []string{"around Cb *0"}, wovenRun{"0: 0 done 4", points, "1"}},
		// Proceeding more than once does the call and its body again, but comes to it once.
		{w, 0, []string{"around Cb KK"}, wovenRun{"14: 14 done 7", points, "1"}},
		{w, 0, []string{"around Cb KPK*0KK"}, wovenRun{"12: 4 12 done 13", points, "1"}},
		{w, 0, []string{"around P KKK"}, wovenRun{"8: 8 8 8 done 7", points, "1"}},
		// Choices of advice are by the value as it is then, and are steps.
		{w, 0, []string{"around T ?[K][]"}, wovenRun{"8: 8 done 7", points, "2"}},
		{w, 0, []string{"around T ?[][K]"}, wovenRun{"2: done 4", points, "2"}},
		{w, -1, []string{"around Cb ?[P][K]K"}, wovenRun{"12: 12 done 8", points, "1"}},
		{w, -1, []string{"around Cb K?[K][P]?[K][P]"}, wovenRun{"18: 18 done 11", points, "1"}},
		{w, -1, []string{"around Cb K-4?[K][PK]"}, wovenRun{"4: -1 4 done 10", points, "1"}},
	})
}

func TestOrderOfAdvice(t *testing.T) {
	w := "a:Cb;b:*2"
	point := "call b in a"
	checkCases(t, []wovenCase{
		{w, 1, []string{"before T +1", "before T *3"}, wovenRun{"12: done 4", point, "1 1"}},
		{w, 1, []string{"before T *3", "before T +1"}, wovenRun{"8: done 4", point, "1 1"}},
		// Advice after is done the other way round, whatever stands between.
		{w, 1, []string{"after T +1", "after T *3"}, wovenRun{"7: done 4", point, "1 1"}},
		{w, 1, []string{"after T *3", "after T +1"}, wovenRun{"9: done 4", point, "1 1"}},
		{w, 1, []string{"after T +1", "before T +5", "after T *3"}, wovenRun{"37: done 5", point, "1 1 1"}},
		{w, 1, []string{"after T P", "after T +1P", "after T *3P"}, wovenRun{"7: 6 7 7 done 7", point, "1 1 1"}},
		// Before and after do not depend on which of them is first.
		{w, 1, []string{"before T +1P", "after T *3P"}, wovenRun{"12: 2 12 done 6", point, "1 1"}},
		{w, 1, []string{"after T *3P", "before T +1P"}, wovenRun{"12: 2 12 done 6", point, "1 1"}},
		// Advice around has what is behind it in the list within it.
		{w, 1, []string{"around T +1K", "before T P"}, wovenRun{"4: 2 done 4", point, "1 1"}},
		{w, 1, []string{"before T P", "around T +1K"}, wovenRun{"4: 1 done 4", point, "1 1"}},
		{w, 1, []string{"around T KK", "before T P"}, wovenRun{"4: 1 2 done 6", point, "1 2"}},
		{w, 1, []string{"before T P", "around T KK"}, wovenRun{"4: 1 done 5", point, "1 1"}},
		{w, 1, []string{"around T KK", "after T P"}, wovenRun{"4: 2 4 done 6", point, "1 2"}},
		{w, 1, []string{"after T P", "around T KK"}, wovenRun{"4: 4 done 5", point, "1 1"}},
		{w, 1, []string{"around T K+1K", "around T KPK"}, wovenRun{"20: 2 10 done 11", point, "1 2"}},
		{w, 1, []string{"around T KK", "around T KKK", "around T K", "before T -1"}, wovenRun{"-62: done 18", point, "1 2 6 6"}},
		// What is kept out keeps all that is behind it in the list.
		{w, 1, []string{"before T +1", "around T ", "before T +2", "around T KK"}, wovenRun{"2: done 1", point, "1 1 0 0"}},
		{w, 1, []string{"after T P", "around T +1", "after T +2"}, wovenRun{"2: 2 done 2", point, "1 1 0"}},
		{w, 0, []string{"around T K+1K", "around T ?[K][]", "after T P"}, wovenRun{"2: 2 done 6", point, "1 2 1"}},
		// Only advice whose cut has the join point is in the order.
		{w, 1, []string{"before P +9", "before &CbWa +1", "around Wb ", "after Fb P", "before !Fb *3"}, wovenRun{"12: done 4", point, "0 1 0 0 1"}},
	})
}

func TestAdviceWithinCalls(t *testing.T) {
	twice := "print in ab, call c in ab, print in abc, print in abc, "
	checkCases(t, []wovenCase{
		{"a:CbP;b:PCc;c:P", 0, []string{"around T KK"}, wovenRun{"0:" + strings.Repeat(" 0", 14) + " done 20", "call b in a, " + twice + twice + "print in a", "10"}},
		// What K does is the same again when advice within it has ended.
		{"a:Cb;b:P", 1, []string{"around Cb KPK", "around P K*2K+1"}, wovenRun{"7: 1 2 3 3 6 done 11", "call b in a, print in ab, print in ab", "1 2"}},
		{"a:Cb;b:Cc;c:P", 1, []string{"around Cc K+1K", "around Cb KPK"}, wovenRun{"3: 1 2 2 2 3 done 13", "call b in a, call c in ab, print in abc, print in abc, call c in ab, print in abc, print in abc", "2 1"}},
		// The prints of advice are no join points, and what it does is done in no procedure of its own.
		{"a:P", 5, []string{"before P P", "before T P", "after Wa P", "around Fa PKP"}, wovenRun{"5: 5 5 5 5 5 5 done 6", "print in a", "1 1 1 1"}},
		{"a:+1Cb;b:+1", 0, []string{"around Cb PKP", "before P +5"}, wovenRun{"2: 1 2 done 5", "call b in a", "1 0"}},
		// Cuts are asked of all that is active at the join point.
		{"a:CbCcP;b:Cc;c:P", 0, []string{"before &PFb +3", "before &PWc *2", "before &CcWb -1", "after |&PWaCb P"}, wovenRun{"8: 4 4 8 8 8 done 12", "call b in a, call c in ab, print in abc, call c in a, print in ac, print in a", "1 2 1 2"}},
		{"a:?[-1CaP][P]", 2, []string{"before &CaFa P", "around P K+1"}, wovenRun{"3: 1 0 0 1 2 done 15", "call a in a, call a in aa, print in aaa, print in aa, print in a", "2 3"}},
	})
	// It is advice for runs that begin with another procedure too.
	list := aspectsOf(t, "before Fa P", "before Wb +1")
	checkWoven(t, "a:Cb;b:P", list, "b", 1, wovenRun{"2: 2 done 2", "print in b", "0 1"})
	checkWoven(t, "a:Cb;b:P", list, "a", 1, wovenRun{"2: 1 1 2 done 5", "call b in a, print in ab", "2 1"})
}

func TestLimitOfStepsWithAdvice(t *testing.T) {
	for _, c := range []struct {
		steps  int
		behind string
		advice []string
		want   wovenRun
	}{
		{498, "P", []string{"before P P"}, wovenRun{"3: 3 3 done 500", ", print in a", "1"}},
		{499, "P", []string{"before P P"}, wovenRun{"3: 3 long 500", ", print in a", "1"}},
		{500, "P", []string{"before P P"}, wovenRun{"3: long 500", ", print in a", "1"}},
		{499, "P", []string{"before P +1"}, wovenRun{"4: long 500", ", print in a", "1"}},
		{499, "P", []string{"before P "}, wovenRun{"3: 3 done 500", ", print in a", "1"}},
		{500, "P", []string{"before P "}, wovenRun{"3: long 500", ", print in a", "1"}},
		{498, "P", []string{"after P +1"}, wovenRun{"4: 3 done 500", ", print in a", "1"}},
		{499, "P", []string{"after P +1"}, wovenRun{"3: 3 long 500", ", print in a", "1"}},
		{498, "P", []string{"after P +1", "after P *2"}, wovenRun{"6: 3 long 500", ", print in a", "1 1"}},
		// Advice is begun without a step, but not when the run has ended.
		{500, "P", []string{"before P P", "before P +1"}, wovenRun{"3: long 500", ", print in a", "1 0"}},
		{500, "P", []string{"before P ", "before P +1"}, wovenRun{"3: long 500", ", print in a", "1 1"}},
		{499, "P", []string{"before P P", "before P +1"}, wovenRun{"3: 3 long 500", ", print in a", "1 1"}},
		{500, "PP", []string{"around T ", "before T P"}, wovenRun{"3: done 500", ", print in a, print in a", "2 0"}},
		{500, "PPP", []string{"around P +1"}, wovenRun{"3: long 500", ", print in a", "1"}},
		{499, "PPP", []string{"around P +1"}, wovenRun{"4: long 500", ", print in a, print in a", "2"}},
		// Advice after is begun before what it proceeds to.
		{500, "P", []string{"after P +1"}, wovenRun{"3: long 500", ", print in a", "1"}},
		{500, "P", []string{"after P +1", "after P *2"}, wovenRun{"3: long 500", ", print in a", "1 1"}},
		// K is no step.
		{499, "P", []string{"around P K"}, wovenRun{"3: 3 done 500", ", print in a", "1"}},
		{498, "P", []string{"around P KK"}, wovenRun{"3: 3 3 done 500", ", print in a", "1"}},
		{499, "P", []string{"around P KK"}, wovenRun{"3: 3 long 500", ", print in a", "1"}},
		{499, "P", []string{"around P KK", "before P "}, wovenRun{"3: 3 long 500", ", print in a", "1 2"}},
		{500, "P", []string{"around P KK", "before P "}, wovenRun{"3: long 500", ", print in a", "1 1"}},
		{500, "P", []string{"around P KKK", "around P "}, wovenRun{"3: done 500", ", print in a", "1 3"}},
		{500, "P", []string{"around P K+1K", "around P "}, wovenRun{"3: long 500", ", print in a", "1 1"}},
		// Choices are steps.
		{498, "P", []string{"around P ?[K][]"}, wovenRun{"3: 3 done 500", ", print in a", "1"}},
		{499, "P", []string{"around P ?[K][]"}, wovenRun{"3: long 500", ", print in a", "1"}},
		{499, "P", []string{"around P ?[][K]"}, wovenRun{"3: done 500", ", print in a", "1"}},
		{500, "P", []string{"around P ?[][K]"}, wovenRun{"3: long 500", ", print in a", "1"}},
		// Within what advice proceeds to.
		{498, "Cc", []string{"before P +1"}, wovenRun{"4: long 500", ", call c in a, print in ac", "1"}},
		{499, "CcP", []string{"around Cc KP"}, wovenRun{"3: long 500", ", call c in a, print in ac", "1"}},
		{500, "CcP", []string{"around Cc ", "before T P"}, wovenRun{"3: long 500", ", call c in a, print in a", "1 1"}},
	} {
		w, calls := afterSteps(c.steps, c.behind)
		want := c.want
		want.points = calls + want.points
		list := aspectsOf(t, c.advice...)
		for i := range list {
			list[i].Cut = "&!Cb" + list[i].Cut
		}
		checkWoven(t, w, list, "a", 3, want)
	}
	body := strings.Repeat("P", 59) + "K"
	checkWoven(t, "a:Ca", aspectsOf(t, "around Ca "+body), "a", 0, wovenRun{"0:" + strings.Repeat(" 0", 492) + " long 500", callsDown("aaaaaaaaa", ", call a in aaaaaaaaa"), "9"})
}

func TestLimitOfDepthWithAdvice(t *testing.T) {
	as := strings.Repeat("a", 20)
	down := callsDown(as, ", call a in "+as)
	ups := ""
	for i := 20; i > 0; i-- {
		ups += ", print in " + as[:i]
	}
	checkCases(t, []wovenCase{
		{"a:Ca", 5, []string{"before Ca P"}, wovenRun{"5:" + strings.Repeat(" 5", 20) + " deep 40", down, "20"}},
		{"a:CaP", 5, []string{"after Ca P"}, wovenRun{"5: deep 20", down, "20"}},
		{"a:CaP", 5, []string{"around Ca KPK"}, wovenRun{"5: deep 20", down, "20"}},
		{"a:CaP", 5, []string{"around Ca KP", "after Ca P", "before P P"}, wovenRun{"5: deep 20", down, "20 20 0"}},
		{"a:Ca", 19, []string{"around Ca ?[-1K][]"}, wovenRun{"0: done 58", down, "20"}},
		{"a:Ca", 20, []string{"around Ca ?[-1K][]"}, wovenRun{"0: deep 60", down, "20"}},
		// What is done within advice is no deeper.
		{"a:?[-1CaP][P]", 19, []string{"around T K", "before T ", "around T K", "after T ", "around T K"}, wovenRun{"0:" + strings.Repeat(" 0", 20) + " done 78", callsDown(as, ups), "39 39 39 39 39"}},
		{"a:?[-1CaP][P]", 20, []string{"around T K", "before T ", "around T K", "after T ", "around T K"}, wovenRun{"0: deep 60", down, "20 20 20 20 20"}},
		{"a:?[-1CaP][P]", 9999, []string{"before Ca *0+2", "around P "}, wovenRun{"2: deep 100", down, "20 0"}},
	})
}

func TestValuesWithAdvice(t *testing.T) {
	for _, c := range []struct {
		value int
		body  string
		want  string
	}{
		{9999, "+1", "0: 0 done 2"}, {9999, "-1", "9998: 9998 done 2"}, {-9999, "-1", "0: 0 done 2"}, {-9999, "+1", "-9998: -9998 done 2"},
		{9999, "*9", "9991: 9991 done 2"}, {-9999, "*9", "-9991: -9991 done 2"}, {5000, "*2", "0: 0 done 2"}, {9998, "+1", "9999: 9999 done 2"}, {-9998, "-1", "-9999: -9999 done 2"},
	} {
		checkWoven(t, "a:P", aspectsOf(t, "before P "+c.body), "a", c.value, wovenRun{c.want, "print in a", "1"})
	}
	for _, value := range []int{-10000, 10000, -10001, 20000, math.MinInt, math.MaxInt, math.MinInt32, math.MaxInt32} {
		checkNotWoven(t, "a:P", nil, "a", value)
		checkNotWoven(t, "a:P", aspectsOf(t, "before P P"), "a", value)
	}
}

func TestRunsThatAreNotWoven(t *testing.T) {
	good := aspectsOf(t, "before P P", "around T K", "after Ca ", "around N KK", "before Fa +1", "before P P")
	for _, name := range append([]string{"c", "z", "Ca"}, wrongNames...) {
		checkNotWoven(t, "a:P;b:Ca", nil, name, 0)
		checkNotWoven(t, "a:P;b:Ca", good[:2], name, 0)
	}
	for _, w := range []string{"", "a", "P", "a:Cb", "b:;a:", "a:;a:", "a:;", "a:K", "a:?[K][]", "a:+", "a:P ", "A:P", "a:P\x00", "\xff", "a:" + strings.Repeat("P", 399)} {
		checkNotWoven(t, w, nil, "a", 0)
		checkNotWoven(t, w, good[:5], "a", 0)
	}
	checkWoven(t, "a:P", good[:5], "a", 0, wovenRun{"1: 0 1 done 3", "print in a", "1 1 0 0 1"})
	checkNotWoven(t, "a:P", good, "a", 0)
	checkNotWoven(t, "a:P", slices.Repeat(good, 1000), "a", 0)
	for _, wrong := range []impl.Aspect{{}, {Kind: "before", Cut: "P", Body: "K"}, {Kind: "around", Cut: "x"}, {Kind: "x", Cut: "P"}, {Kind: "around", Cut: "P", Body: "Ca"}, {Kind: "after", Cut: "P", Body: strings.Repeat("P", 61)}} {
		for i := range 5 {
			list := slices.Clone(good[:5])
			list[i] = wrong
			checkNotWoven(t, "a:P", list, "a", 0)
		}
		// It is wrong in a run without join points too.
		checkNotWoven(t, "a:", []impl.Aspect{wrong}, "a", 0)
	}
}

// TestAdviceWithoutSteps proceeds millions of times without a step, which no limit ends.
func TestAdviceWithoutSteps(t *testing.T) {
	ks := "around P " + strings.Repeat("K", 60)
	w := "a:" + strings.Repeat("P", 398)
	points := strings.TrimSuffix(strings.Repeat("print in a, ", 398), ", ")
	checkWoven(t, w, aspectsOf(t, ks, ks, ks, ks, "around P "), "a", 7, wovenRun{"7: done 0", points, "398 23880 1432800 85968000 5158080000"})
	checkWoven(t, "a:P+1P", aspectsOf(t, ks, "around P K", ks, ks, "around P "), "a", 7, wovenRun{"8: done 1", "print in a, print in a", "2 120 120 7200 432000"})
	// It does the same again only until there is a step.
	half := strings.Repeat("K", 25)
	checkWoven(t, "a:P", aspectsOf(t, "around P "+half+"?["+half+"][]", "around P "), "a", 1, wovenRun{"1: done 1", "print in a", "1 50"})
	checkWoven(t, "a:PP", aspectsOf(t, ks, "around P "+strings.Repeat("K", 58)+"-1", "around P "), "a", 60, wovenRun{"-60: done 120", "print in a, print in a", "2 120 6960"})
	checkWoven(t, "a:P", aspectsOf(t, "around P KKK", "around P "+half+"-1K?["+half+"][]", ks, "around P "), "a", 2, wovenRun{"-1: done 6", "print in a", "1 3 103 6180"})
	checkWoven(t, "a:P", aspectsOf(t, ks, ks, ks, ks, ks), "a", 1, wovenRun{"1:" + strings.Repeat(" 1", 500) + " long 500", "print in a", "1 1 1 1 9"})
	// Many join points, none of which is done.
	w = "a:" + strings.Repeat("Cb", 90) + ";b:" + strings.Repeat("P", 210)
	points = strings.TrimSuffix(strings.Repeat("call b in a, "+strings.Repeat("print in ab, ", 210), 90), ", ")
	checkWoven(t, w, aspectsOf(t, ks, ks, ks, ks, "around P "), "a", 0, wovenRun{"0: done 90", points, "18900 1134000 68040000 4082400000 244944000000"})
}

func checkAt(t *testing.T, list []impl.Aspect, j impl.JoinPoint, want ...int) {
	t.Helper()
	if got := impl.AdviceAt(list, j); !slices.Equal(got, want) {
		t.Errorf("AdviceAt(%q, %q) = %v, want %v", list, j, got, want)
	}
}

func TestAdviceAt(t *testing.T) {
	list := aspectsOf(t, "before P P", "after Cb P", "around T ", "before &FaWb +1", "after N ")
	checkAt(t, list, printIn("a"), 0, 2)
	checkAt(t, list, printIn("ab"), 0, 2, 3)
	checkAt(t, list, printIn("ba"), 0, 2)
	checkAt(t, list, callIn("b", "a"), 1, 2)
	checkAt(t, list, callIn("b", "aab"), 1, 2, 3)
	checkAt(t, list, callIn("z", strings.Repeat("a", 20)), 2)
	checkAt(t, list[4:], printIn("a"))
	checkAt(t, nil, printIn("a"))
	checkAt(t, slices.Repeat(list[2:3], 5), printIn("a"), 0, 1, 2, 3, 4)
	for _, j := range []impl.JoinPoint{
		{}, {Kind: "print"}, {Kind: "call", Name: "b"}, {Kind: "print", Name: "b", Stack: "a"}, {Kind: "call", Stack: "a"}, {Kind: "call", Name: "B", Stack: "a"}, {Kind: "call", Name: "bb", Stack: "a"}, {Kind: "", Name: "b", Stack: "a"}, {Kind: "x", Stack: "a"},
		printIn("A"), printIn("a b"), printIn(strings.Repeat("a", 21)), callIn("b", strings.Repeat("a", 21)), printIn("\x00"), printIn("\xff"),
	} {
		checkAt(t, list, j)
		checkAt(t, aspectsOf(t, "before !N "), j)
	}
	for _, wrong := range []impl.Aspect{{}, {Kind: "before", Cut: "P", Body: "K"}, {Kind: "around", Cut: "x"}, {Kind: "x", Cut: "P"}} {
		checkAt(t, []impl.Aspect{wrong}, printIn("a"))
		checkAt(t, []impl.Aspect{list[0], wrong}, printIn("a"))
	}
	checkAt(t, slices.Repeat(list[2:3], 6), printIn("a"))
}

func checkAllAround(t *testing.T, list []impl.Aspect, want []impl.Aspect) {
	t.Helper()
	if got, ok := impl.AllAround(list); !slices.Equal(got, want) || !ok {
		t.Errorf("AllAround(%q) = %q, %v, want %q", list, got, ok, want)
	}
}

func checkNotAllAround(t *testing.T, list []impl.Aspect) {
	t.Helper()
	if got, ok := impl.AllAround(list); len(got) != 0 || ok {
		t.Errorf("AllAround(%q) = %q, %v, want none", list, got, ok)
	}
}

func TestAllAround(t *testing.T) {
	list := aspectsOf(t, "before P P", "after Ca ?[P][]", "around T KK", "around N ", "before T ")
	checkAllAround(t, list, aspectsOf(t, "around P PK", "around Ca K?[P][]", "around T KK", "around N ", "around T K"))
	checkAllAround(t, nil, nil)
	full := strings.Repeat("P", 60)
	checkAllAround(t, aspectsOf(t, "before P "+full[1:], "after P "+full[1:], "around P "+full), aspectsOf(t, "around P "+full[1:]+"K", "around P K"+full[1:], "around P "+full))
	for _, long := range aspectsOf(t, "before P "+full, "after P "+full) {
		checkNotAllAround(t, []impl.Aspect{long})
		for i := range list {
			changed := slices.Clone(list)
			changed[i] = long
			checkNotAllAround(t, changed)
		}
		// It is woven all the same.
		checkWoven(t, "a:P", []impl.Aspect{long}, "a", 1, wovenRun{"1:" + strings.Repeat(" 1", 61) + " done 61", "print in a", "1"})
	}
	for _, wrong := range []impl.Aspect{{}, {Kind: "before", Cut: "P", Body: "K"}, {Kind: "around", Cut: "x"}, {Kind: "x", Cut: "P"}} {
		checkNotAllAround(t, []impl.Aspect{wrong})
		checkNotAllAround(t, []impl.Aspect{list[0], wrong})
	}
	checkNotAllAround(t, slices.Repeat(list[:1], 6))
}

func checkMerged(t *testing.T, a impl.Aspect, b impl.Aspect, body string) {
	t.Helper()
	want := impl.Aspect{Kind: a.Kind, Cut: a.Cut, Body: body}
	if got, ok := impl.MergeAdvice(a, b); got != want || !ok {
		t.Errorf("MergeAdvice(%q, %q) = %q, %v, want %q", textOf(a), textOf(b), got, ok, want)
	}
}

func checkNotMerged(t *testing.T, a impl.Aspect, b impl.Aspect) {
	t.Helper()
	if got, ok := impl.MergeAdvice(a, b); got != (impl.Aspect{}) || ok {
		t.Errorf("MergeAdvice(%q, %q) = %q, %v, want none", a, b, got, ok)
	}
}

func TestMergeAdvice(t *testing.T) {
	for _, c := range [][4]string{
		{"before", "P", "+1", "P+1"}, {"before", "", "P", "P"}, {"before", "P", "", "P"}, {"before", "", "", ""}, {"before", "?[P][]", "?[][+1]", "?[P][]?[][+1]"},
		{"after", "P", "+1", "+1P"}, {"after", "", "P", "P"}, {"after", "P", "", "P"}, {"after", "", "", ""}, {"after", "?[P][]", "?[][+1]", "?[][+1]?[P][]"},
		{"around", "PK", "+1K", "P+1K"}, {"around", "PKP", "K", "PKP"}, {"around", "K", "PKP", "PKP"}, {"around", "KK", "KK", "KKKK"}, {"around", "K", "", ""}, {"around", "KPK", "", "P"},
		{"around", "", "KK", ""}, {"around", "P", "KKP", "P"}, {"around", "?[K][PK]", "K+1K", "?[K+1K][PK+1K]"}, {"around", "?[][?[K][]]K", "?[P][K]", "?[][?[?[P][K]][]]?[P][K]"},
	} {
		checkMerged(t, impl.Aspect{Kind: c[0], Cut: "&PFb", Body: c[1]}, impl.Aspect{Kind: c[0], Cut: "&PFb", Body: c[2]}, c[3])
	}
}

func TestLimitOfMergedAdvice(t *testing.T) {
	ps, ks := strings.Repeat("P", 60), strings.Repeat("K", 60)
	for _, c := range []struct {
		kind, first, second string
		body                string
	}{
		{"before", ps[:29] + "+1", ps[:29], ps[:29] + "+1" + ps[:29]}, {"before", ps, "", ps}, {"before", "", ps, ps},
		{"after", ps[:29] + "+1", ps[:29], ps[:58] + "+1"}, {"after", ps, "", ps}, {"after", "", ps, ps},
		{"around", "KK", ps[:30], ps}, {"around", ks, "P", ps}, {"around", "P", ps, "P"}, {"around", ps, ks, ps}, {"around", "K", ks, ks}, {"around", ks, "K", ks}, {"around", ks, "", ""}, {"around", "?[K][]", ps[:55], "?[" + ps[:55] + "][]"},
	} {
		a, b := impl.Aspect{Kind: c.kind, Cut: "T", Body: c.first}, impl.Aspect{Kind: c.kind, Cut: "T", Body: c.second}
		checkMerged(t, a, b, c.body)
	}
	for _, c := range [][3]string{
		{"before", ps[:31], ps[:30]}, {"before", ps, "P"}, {"before", "P", ps}, {"before", ps, ps}, {"after", ps[:31], ps[:30]}, {"after", ps, "P"}, {"after", "P", ps}, {"after", ps, ps},
		{"around", "KK", ps[:31]}, {"around", ks, "+1"}, {"around", "PKK", ps[:30]}, {"around", "PK", ps}, {"around", ks, ks}, {"around", "?[K][]", ps[:56]},
	} {
		checkNotMerged(t, impl.Aspect{Kind: c[0], Cut: "T", Body: c[1]}, impl.Aspect{Kind: c[0], Cut: "T", Body: c[2]})
	}
}

func TestAdviceThatCannotBeMerged(t *testing.T) {
	good := impl.Aspect{Kind: "before", Cut: "P", Body: "P"}
	for _, other := range []impl.Aspect{
		{Kind: "after", Cut: "P", Body: "P"}, {Kind: "around", Cut: "P", Body: "P"}, {Kind: "before", Cut: "T", Body: "P"}, {Kind: "before", Cut: "!!P", Body: "P"}, {Kind: "before", Cut: "&PP", Body: "P"},
		// Those that are not valid.
		{}, {Cut: "P", Body: "P"}, {Kind: "before", Body: "P"}, {Kind: "before", Cut: "P", Body: "K"}, {Kind: "before", Cut: "P", Body: "Ca"}, {Kind: "before", Cut: "P", Body: "?[P]"}, {Kind: "Before", Cut: "P", Body: "P"}, {Kind: "before", Cut: "P", Body: strings.Repeat("P", 61)},
	} {
		checkNotMerged(t, good, other)
		checkNotMerged(t, other, good)
		if !impl.AspectValid(other) {
			checkNotMerged(t, other, other)
		}
	}
	// What is not valid would make advice that is.
	for _, c := range [][3]string{{"around", strings.Repeat("K", 61), ""}, {"around", "?K[][]", ""}, {"around", "+K1", ""}, {"before", "+", "1"}, {"after", "1", "+"}, {"before", "?[P]", "[]"}, {"around", "+K", "1"}, {"around", "?[K", "][]"}, {"around", "K", "CaCbCc"}, {"before", "P K", ""}} {
		checkNotMerged(t, impl.Aspect{Kind: c[0], Cut: "T", Body: c[1]}, impl.Aspect{Kind: c[0], Cut: "T", Body: c[2]})
	}
	// One that is not valid would be left out.
	checkNotMerged(t, impl.Aspect{Kind: "around", Cut: "T", Body: "P"}, impl.Aspect{Kind: "around", Cut: "T", Body: "Ca"})
	checkNotMerged(t, impl.Aspect{Kind: "around", Cut: "T", Body: ""}, impl.Aspect{Kind: "around", Cut: "T", Body: strings.Repeat("K", 61)})
}

// inPlaceOf returns the text that stands in place of a join point: that of the aspects which are left around what it does.
func inPlaceOf(list []impl.Aspect, left []int, deed string) string {
	if len(left) == 0 {
		return "!" + deed
	}
	a, rest := list[left[0]], inPlaceOf(list, left[1:], deed)
	begun, body := "{"+strconv.Itoa(left[0]), strings.ReplaceAll(a.Body, "P", "!P")
	switch a.Kind {
	case "before":
		return begun + body + rest
	case "after":
		return begun + rest + body
	default:
		return begun + strings.ReplaceAll(body, "K", rest)
	}
}

// weaveOfTexts runs a program with advice as texts.
func weaveOfTexts(names string, bodies []string, list []impl.Aspect, name string, value int) wovenRun {
	r := textRun{names: names, bodies: bodies, inPlace: func(s string, stack string) string {
		j := printIn(stack)
		if s != "P" {
			j = callIn(s[1:], stack)
		}
		var left []int
		for i, a := range list {
			if isIn(a.Cut, j) {
				left = append(left, i)
			}
		}
		return inPlaceOf(list, left, s)
	}}
	whole := r.run(name, value)
	return wovenRun{whole.outcome, whole.points, numbersText(r.begun[:len(list)])}
}

// randomAspects returns at most five aspects, some of which proceed without a step.
func randomAspects(r *rand.Rand, names string) []impl.Aspect {
	var list []impl.Aspect
	for range r.Intn(6) {
		a := randomAdvice(r)
		a.Cut = randomCut(r, names, 2)
		if a.Kind == "around" && r.Intn(2) == 0 {
			a.Body = []string{"", "K", "KK", "KKK", "K?[K][]K", "K+1KK", "KK-1"}[r.Intn(7)]
		}
		if r.Intn(2) == 0 {
			a.Cut = "T"
		}
		list = append(list, a)
	}
	if !impl.AspectsValid(list) {
		return nil
	}
	return list
}

// eachWeaving visits random programs with advice.
func eachWeaving(r *rand.Rand, times int, visit func(names string, bodies []string, list []impl.Aspect, name string, value int)) {
	for i := range times {
		names, bodies := randomProgram(r)
		if i%2 == 0 {
			names = "bdnz"
			bodies = layeredBodies(r, names)
		}
		if len(programText(names, bodies)) > 400 {
			continue
		}
		k := r.Intn(len(names))
		visit(names, bodies, randomAspects(r, names), names[k:k+1], randomValue(r))
	}
}

func TestWovenRunsAsTexts(t *testing.T) {
	r := rand.New(rand.NewSource(10))
	ends, begun := map[string]int{}, 0
	eachWeaving(r, 6000, func(names string, bodies []string, list []impl.Aspect, name string, value int) {
		w := programText(names, bodies)
		got, want := weaveWhole(t, w, list, name, value), weaveOfTexts(names, bodies, list, name, value)
		if got != want {
			t.Fatalf("%q, %q, %q, %d: %+v, want %+v", w, list, name, value, got, want)
		}
		words := strings.Fields(got.outcome)
		ends[words[len(words)-2]]++
		if strings.Trim(got.counts, "0 ") != "" {
			begun++
		}
	})
	if ends["done"] < 100 || ends["long"] < 100 || ends["deep"] < 100 || begun < 1000 {
		t.Errorf("too few runs of some end: %v, or with advice: %d", ends, begun)
	}
}

// TestAdviceThatDoesNothing weaves programs without advice, and with advice that does nothing.
func TestAdviceThatDoesNothing(t *testing.T) {
	r := rand.New(rand.NewSource(11))
	nothing := aspectsOf(t, "around T K", "before T ", "around N ", "after T ", "before N P")
	eachWeaving(r, 2000, func(names string, bodies []string, list []impl.Aspect, name string, value int) {
		w := programText(names, bodies)
		plain := runWhole(t, w, name, value)
		checkWoven(t, w, nil, name, value, wovenRun{plain.outcome, plain.points, ""})
		points, _ := impl.JoinPointsOf(w, name, value)
		n := len(points)
		checkWoven(t, w, nothing, name, value, wovenRun{plain.outcome, plain.points, numbersText([]int{n, n, 0, n, 0})})
		// Advice that keeps all out leaves just the join points of the first procedure.
		o, _ := impl.RunWoven(w, aspectsOf(t, "around T "), name, value)
		kept, _ := impl.WovenPoints(w, aspectsOf(t, "around T "), name, value)
		for _, j := range kept {
			if j.Stack != name {
				t.Fatalf("%q, %q, %d: %q with all kept out", w, name, value, j)
			}
		}
		if len(o.Out) > 0 || o.End != "done" {
			t.Fatalf("%q, %q, %d: %v with all kept out", w, name, value, o)
		}
	})
}

// TestWovenAsAdviceAround weaves with the advice around that does the same.
func TestWovenAsAdviceAround(t *testing.T) {
	r := rand.New(rand.NewSource(12))
	same := 0
	eachWeaving(r, 3000, func(names string, bodies []string, list []impl.Aspect, name string, value int) {
		around, ok := impl.AllAround(list)
		if !ok {
			return
		}
		same += len(list)
		w := programText(names, bodies)
		checkWoven(t, w, around, name, value, weaveWhole(t, w, list, name, value))
	})
	if same < 3000 {
		t.Errorf("just %d aspects", same)
	}
}

// TestWovenWithMergedAdvice weaves with two aspects as one.
func TestWovenWithMergedAdvice(t *testing.T) {
	r := rand.New(rand.NewSource(13))
	merged := map[string]int{}
	eachWeaving(r, 10000, func(names string, bodies []string, list []impl.Aspect, name string, value int) {
		if len(list) < 2 {
			return
		}
		i := r.Intn(len(list) - 1)
		list[i+1].Cut = list[i].Cut
		one, ok := impl.MergeAdvice(list[i], list[i+1])
		canBe := list[i].Kind == list[i+1].Kind
		isShort := len(list[i].Body)*(1+len(list[i+1].Body)) <= 60
		if ok && !canBe || !ok && canBe && isShort {
			t.Fatalf("MergeAdvice(%q, %q) = %q, %v", list[i], list[i+1], one, ok)
		}
		if !ok {
			return
		}
		merged[one.Kind]++
		w := programText(names, bodies)
		want := weaveWhole(t, w, list, name, value)
		counts := strings.Fields(want.counts)
		want.counts = strings.Join(slices.Delete(counts, i+1, i+2), " ")
		checkWoven(t, w, slices.Replace(slices.Clone(list), i, i+2, one), name, value, want)
	})
	for _, kind := range []string{"before", "after", "around"} {
		if merged[kind] < 50 {
			t.Errorf("too few of some kind: %v", merged)
		}
	}
}

// TestAdviceAtJoinPointsOfRuns asks which advice the join points of runs have, and how often it is begun if all proceeds once.
func TestAdviceAtJoinPointsOfRuns(t *testing.T) {
	r := rand.New(rand.NewSource(14))
	eachWeaving(r, 2000, func(names string, bodies []string, list []impl.Aspect, name string, value int) {
		for i := range list {
			list[i].Kind, list[i].Body = "around", "K"
		}
		w := programText(names, bodies)
		points, _ := impl.WovenPoints(w, list, name, value)
		counts := make([]int, len(list))
		for _, j := range points {
			var want []int
			for i, a := range list {
				if isIn(a.Cut, j) {
					want = append(want, i)
					counts[i]++
				}
			}
			checkAt(t, list, j, want...)
		}
		if got, ok := impl.AdviceCounts(w, list, name, value); !slices.Equal(got, counts) || !ok {
			t.Fatalf("AdviceCounts(%q, %q, %q, %d) = %v, %v, want %v", w, list, name, value, got, ok, counts)
		}
	})
}

func TestWeavingSharesNoMemory(t *testing.T) {
	w := "a:PCbP;b:P"
	room := aspectsOf(t, "before P P", "around T K", "after N ", "around P KK", "before T ")
	list, before := room[:2], slices.Clone(room)
	want := weaveWhole(t, w, list, "a", 5)
	all, _ := impl.AllAround(list)
	for range 2 {
		o, _ := impl.RunWoven(w, list, "a", 5)
		points, _ := impl.WovenPoints(w, list, "a", 5)
		counts, _ := impl.AdviceCounts(w, list, "a", 5)
		at := impl.AdviceAt(list, printIn("a"))
		around, _ := impl.AllAround(list)
		o.Out[0], points[0], counts[0], at[0], around[1] = -1, impl.JoinPoint{}, -1, -1, impl.Aspect{}
		_ = append(o.Out[:0], 9, 9, 9, 9)
		_ = append(points[:0], impl.JoinPoint{Kind: "call"})
		_ = append(counts[:0], 9, 9, 9)
		_ = append(at[:0], 9, 9)
		_ = append(around[:0], impl.Aspect{}, impl.Aspect{}, impl.Aspect{})
	}
	checkWoven(t, w, list, "a", 5, want)
	checkAt(t, list, printIn("a"), 0, 1)
	checkAllAround(t, list, all)
	if !slices.Equal(room, before) {
		t.Errorf("the arguments became %q", room)
	}
}
