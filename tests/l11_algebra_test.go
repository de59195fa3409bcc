package tests

import (
	"math/rand"
	"slices"
	"strings"
	"sync"
	"testing"

	"loop.example/wovenprograms/impl"
)

// A compared is all that is told of two cuts; told is empty where nothing tells them apart.
type compared struct {
	can     bool
	same    bool
	implies bool
	implied bool
	told    string
}

// tellPoint returns the text of the join point that tells cuts apart.
func tellPoint(t *testing.T, a string, b string) string {
	t.Helper()
	j, ok := impl.TellCuts(a, b)
	if !ok {
		if j != (impl.JoinPoint{}) {
			t.Errorf("TellCuts(%q, %q) = %v, false", a, b, j)
		}
		return ""
	}
	if !impl.JoinPointValid(j) || impl.Matches(a, j) == impl.Matches(b, j) {
		t.Errorf("TellCuts(%q, %q) = %v, which does not tell", a, b, j)
	}
	return pointsText([]impl.JoinPoint{j})
}

// checkCompared asks in both orders, since nothing depends on it but which one implies which.
func checkCompared(t *testing.T, a string, b string, want compared) {
	t.Helper()
	got := compared{impl.CanCompare(a, b), impl.SameCuts(a, b), impl.ImpliesCut(a, b), impl.ImpliesCut(b, a), tellPoint(t, a, b)}
	back := compared{impl.CanCompare(b, a), impl.SameCuts(b, a), got.implies, got.implied, tellPoint(t, b, a)}
	if got != want || back != want {
		t.Errorf("%q and %q: %+v, in the other order %+v, want %+v", a, b, got, back, want)
	}
}

func checkSame(t *testing.T, a string, b string) {
	t.Helper()
	checkCompared(t, a, b, compared{can: true, same: true, implies: true, implied: true})
}

// checkTold is for cuts of which neither one implies the other.
func checkTold(t *testing.T, a string, b string, told string) {
	t.Helper()
	checkCompared(t, a, b, compared{can: true, told: told})
}

// checkImplies is for cuts of which the first one implies the second one.
func checkImplies(t *testing.T, a string, b string, told string) {
	t.Helper()
	checkCompared(t, a, b, compared{can: true, implies: true, told: told})
}

func checkNotCompared(t *testing.T, a string, b string) {
	t.Helper()
	checkCompared(t, a, b, compared{})
}

// checkEver is for cuts that have no join point, "never", all, "always", or some, "".
func checkEver(t *testing.T, s string, ever string) {
	t.Helper()
	if never, always := impl.IsNever(s), impl.IsAlways(s); never != (ever == "never") || always != (ever == "always") {
		t.Errorf("%q: IsNever %v, IsAlways %v, want %q", s, never, always, ever)
	}
}

func TestSameCuts(t *testing.T) {
	for _, same := range [][2]string{
		{"P", "!!P"}, {"!N", "T"}, {"!T", "N"}, {"|P!P", "T"}, {"&P!P", "N"},
		{"&PCa", "N"}, {"!&PCa", "T"}, {"&CaCb", "N"}, {"|!Ca!Cb", "T"}, {"&WaWb", "N"}, {"|!Wa!Wb", "T"},
		{"!|PCa", "&!P!Ca"}, {"!&PFa", "|!P!Fa"}, {"&PFa", "&FaP"}, {"|CaWb", "|WbCa"},
		{"&Ca!P", "Ca"}, {"|P!Ca", "!Ca"}, {"&Ca!Cb", "Ca"}, {"&Wa!Wb", "Wa"}, {"|Wa!Wb", "!Wb"},
		{"|&PFa&!PFa", "Fa"}, {"&|FaFb|FaFc", "|Fa&FbFc"}, {"|&FaFb&FaFc", "&Fa|FbFc"},
		{"&FaFa", "Fa"}, {"|Fa&FaFb", "Fa"}, {"&Fa|FaFb", "Fa"},
		// Procedures that are named for nothing.
		{"|P&CzN", "P"}, {"&P|WzT", "P"}, {"&P|Fz!Fz", "P"}, {"|Fz!Fz", "T"}, {"&Wz!Wz", "N"},
		// What runs is active.
		{"&Wa!Fa", "N"}, {"|Fa!Wa", "T"}, {"|WaFa", "Fa"}, {"&WaFa", "Wa"}, {"&!Fa!Wa", "!Fa"}, {"|!Fa!Wa", "!Wa"},
		{"&WbFa", "&&WbFaFb"}, {"&&WaFb!Fa", "N"}, {"||WaFb!Fa", "||!FaFbWa"},
		{"&!Fa&!Fb|WaWb", "N"}, {"&&FaFb|WaWb", "|&WaFb&WbFa"}, {"||FaFb!|WaWb", "T"},
	} {
		checkSame(t, same[0], same[1])
		checkSame(t, same[0], same[0])
		checkSame(t, same[1], same[1])
		checkEver(t, same[0], map[string]string{"N": "never", "T": "always"}[same[1]])
	}
	checkSame(t, "|Fz!Fz", "|Cy!Cy")
	checkSame(t, "&Wz!Fz", "&Wa!Fa")
	for s, ever := range map[string]string{"T": "always", "N": "never", "!!T": "always", "|!WaFa": "always", "!|!WaFa": "never", "&TP": "", "|NP": ""} {
		checkEver(t, s, ever)
	}
	for _, s := range []string{"P", "Ca", "Wa", "Fz", "&PWa", "|PCa", "|P|CaCb", "|P||CaCb|CcCd", "|FaFb", "&CaWa", "&CaFa", "&Ca!Fa", "&Fa!Wa", "&FaFb", "|Wa!Fa"} {
		checkEver(t, s, "")
		checkEver(t, "!"+s, "")
	}
}

func TestCutsThatAreTold(t *testing.T) {
	checkImplies(t, "N", "T", "print in a")
	checkImplies(t, "N", "P", "print in a")
	checkImplies(t, "P", "T", "call a in a")
	checkImplies(t, "N", "!P", "call a in a")
	checkImplies(t, "!P", "T", "print in a")
	checkTold(t, "P", "!P", "print in a")
	checkTold(t, "P", "Ca", "print in a")
	checkTold(t, "!P", "Wa", "print in a")
	checkTold(t, "Ca", "Cb", "call a in a")
	checkTold(t, "Wa", "Wb", "print in a")
	checkTold(t, "Fa", "Fb", "print in a")
	checkTold(t, "Ca", "Wa", "print in a")
	checkTold(t, "Ca", "Fa", "print in a")
	checkTold(t, "Ca", "!Wa", "call a in a")
	checkTold(t, "Ca", "!Fa", "call a in a")
	checkTold(t, "Ca", "&Wa!P", "call b in a")
	checkTold(t, "Cz", "&Fz!P", "call a in z")
	checkImplies(t, "Ca", "!P", "call b in a")
	checkImplies(t, "Cb", "!P", "call a in b")
	checkImplies(t, "P", "!Ca", "call b in a")
	checkImplies(t, "P", "!Cb", "call a in b")
	checkImplies(t, "&PWa", "Fa", "call a in a")
	checkImplies(t, "&PWa", "P", "print in b")
	checkImplies(t, "Ca", "|CaCb", "call b in a")
	checkImplies(t, "&PFa", "|PFa", "call a in a")
	checkImplies(t, "&CaCb", "Ca", "call a in a")
	checkImplies(t, "Wa", "!Wb", "print in c")
	checkImplies(t, "Ca", "!Cb", "print in a")
}

// TestWhatRunsIsActive has cuts that are told by which procedures are active besides the one that runs.
func TestWhatRunsIsActive(t *testing.T) {
	checkImplies(t, "Wa", "Fa", "print in ab")
	checkImplies(t, "Wb", "Fb", "print in ba")
	checkImplies(t, "Wz", "Fz", "print in za")
	checkImplies(t, "N", "&Fa!Wa", "print in ab")
	checkImplies(t, "N", "&WaFb", "print in ba")
	checkImplies(t, "N", "&WbFa", "print in ab")
	checkImplies(t, "N", "&FaFb", "print in ba")
	checkImplies(t, "N", "&Wa!Fb", "print in a")
	checkImplies(t, "&WaFb", "Wa", "print in a")
	checkImplies(t, "N", "&&Fa!Wa!P", "call a in ab")
	checkImplies(t, "N", "&&Fa!Wa!|PCa", "call b in ab")
	checkTold(t, "Fa", "&Wb!P", "print in a")
	checkImplies(t, "|WaWb", "|FaFb", "print in ac")
	checkImplies(t, "||WaWbWc", "||FaFbFc", "print in ad")
	checkImplies(t, "||||WaWbWcWdWe", "||||FaFbFcFdFe", "print in af")
	// All other ones in front of the one that runs.
	checkImplies(t, "N", "&&&&WeFaFbFcFd", "print in abcde")
	checkImplies(t, "N", "&&&&WaFeFdFcFb", "print in bcdea")
	checkImplies(t, "N", "&&&&FaFbFcFdFe", "print in bcdea")
	checkImplies(t, "N", "&&&WcFaFe!Fd", "print in aec")
	checkSame(t, "N", "&&&&WaFbFcFd!Fa")
	// None of them runs, and the letter that does is not asked to be active.
	checkImplies(t, "N", "&&FaFz&!Wa!Wz", "print in azb")
	checkImplies(t, "N", "&&&FaFz&!Wa!WzCa", "call a in azb")
	checkImplies(t, "N", "&&&FaFz&!Wa!WzCz", "call z in azb")
	checkImplies(t, "N", "&&!P&FaFz&&!Wa!Wz!|CaCz", "call b in azb")
	checkImplies(t, "N", "!|||||FaFbFcFdFeP", "call a in f")
	// It need not be active to be called.
	checkImplies(t, "N", "&Ca!Fa", "call a in b")
	checkImplies(t, "N", "&Cb!Fb", "call b in a")
	checkImplies(t, "N", "&CaFa", "call a in a")
	checkImplies(t, "N", "&Ca&Fb!Wb", "call a in ba")
}

// TestOrderOfJoinPoints has cuts that several join points tell apart, of which the first one counts.
func TestOrderOfJoinPoints(t *testing.T) {
	for s, told := range map[string]string{
		// The letters that are named, and then another one, though it may be less.
		"!Wb": "print in a", "|Wz!Wb": "print in z", "|CaCb": "call a in a", "|CbCc": "call b in b", "|CcCb": "call b in b",
		"!|PCb": "call a in b", "!|P|CbCc": "call a in b", "!|P|CaCc": "call b in a", "!|P|CaCb": "call c in a",
		// What runs comes before what else is active.
		"|&FbWaWb": "print in ba", "|Wb&FbWa": "print in ba", "|&FbWa&WbFa": "print in ba", "&Fz!Wz": "print in za",
		// What is active comes before what is done, and prints before calls.
		"|&PFb&CaWa": "call a in a", "|&PWb&CbWa": "call b in a", "|Cb&PWb": "print in b", "&Wb|CaP": "print in b", "|&PFb&CaFb": "print in ba",
		// Sets are numbers: 7, of three letters, comes before 8, of one.
		"&We|Fd&FbFc": "print in bce", "&We|Fd&Fc&FaFb": "print in abce", "&Wd|Fc&FaFb": "print in abd", "&Wd|Fb&FaFc": "print in bd",
		"&Wd|FbFc": "print in bd", "&Wd|FcFb": "print in bd", "&Wd&FcFa": "print in acd", "&Wd&Fb|FaFc": "print in abd", "&&Wd!Fa|FbFc": "print in bd",
		"&Wa|Fd&FbFc": "print in bca", "&Wb|Fd&FaFc": "print in acb", "&Wd|Fz|FaFb": "print in ad", "&Wd|Fa|Cz!Cz": "print in d",
		"&|FxFz&!Wx&!WyFy": "print in yz", "&&FxFz!|Wx|WyWz": "print in xza", "&!Wz&&FxFyFz": "print in yzx", "&Wx|&FzFy!Fy": "print in x",
	} {
		checkImplies(t, "N", s, told)
		checkImplies(t, "!"+s, "T", told)
		checkTold(t, s, "!"+s, toldInOrder(s, "!"+s))
	}
	checkImplies(t, "&Wd|FaFb", "&Wd|Fa|FbFc", "print in cd")
	checkTold(t, "&Wd|FaFb", "&Wd|FaFc", "print in bd")
	checkTold(t, "&FaFb", "&FaFc", "print in ba")
	checkTold(t, "&FcFb", "&FcFa", "print in ca")
}

func TestLeastLetterThatIsNotNamed(t *testing.T) {
	for _, c := range []struct{ names, other string }{
		{"", "a"}, {"a", "b"}, {"b", "a"}, {"z", "a"}, {"ab", "c"}, {"ac", "b"}, {"bc", "a"}, {"az", "b"},
		{"abc", "d"}, {"abd", "c"}, {"acd", "b"}, {"bcd", "a"}, {"abcd", "e"}, {"abce", "d"}, {"wxyz", "a"}, {"abxz", "c"},
		{"abcde", "f"}, {"abcdf", "e"}, {"abcef", "d"}, {"abdef", "c"}, {"acdef", "b"}, {"bcdef", "a"}, {"vwxyz", "a"}, {"abcdz", "e"},
	} {
		calls, runs, active := "P", "N", "N"
		for _, name := range c.names {
			calls, runs, active = "|"+calls+"C"+string(name), "|"+runs+"W"+string(name), "|"+active+"F"+string(name)
		}
		first := (c.names + c.other)[:1]
		checkImplies(t, calls, "T", "call "+c.other+" in "+first)
		checkImplies(t, runs, "T", "print in "+c.other)
		checkImplies(t, active, "T", "print in "+c.other)
		if c.names != "" {
			checkImplies(t, runs, active, "print in "+first+c.other)
		}
	}
}

func TestNamesOfComparedCuts(t *testing.T) {
	// Five together.
	checkTold(t, "||||CaCbCcCdCe", "P", "print in a")
	checkTold(t, "|CaWb", "||FcFdFe", "call a in a")
	checkTold(t, "||WaWbFc", "||CcWdFe", "print in a")
	checkTold(t, "&&&&FvFwFxFyFz", "||||WvWwWxWyWz", "print in v")
	checkImplies(t, "&&&WaCbFc!Wd", "|CdWa", "print in a")
	checkSame(t, "||||CaCbCcCdCe", "||||CeCdCcCbCa")
	checkSame(t, "&&&&WaFbFcFd!Fa", "&We!Fe")
	checkEver(t, "&&&&CaWbFcCdWe", "never")
	checkEver(t, "|||!CaWbFc|!CdWe", "always")
	// One letter counts once, whatever signs it stands behind.
	checkSame(t, "||||||||||CaWaFaCbWbFbCcWcFcCdFe", "||||||||||CaWaFaCbWbFbCcWcFcCdFe")
	checkTold(t, "||CaWaFa", "||||CbWcFdCeWa", "call a in b")
	// Six together, though the cuts are the same, never, or always, and though the sixth is named for nothing.
	for _, six := range [][2]string{
		{"|||||CaCbCcCdCeCf", "P"}, {"||CaWbFc", "||CdWeFf"}, {"||||CaCbCcCdCe", "Cf"}, {"||||CaWbFcFdFe", "||||FbFcFdFeFf"}, {"|||||WaWbWcWdWeWz", "N"},
		{"|||||FuFvFwFxFyFz", "|||||FuFvFwFxFyFz"}, {"&&&&&CaCbCcCdCeCf", "N"}, {"|||||!CaCbCcCdCeCf", "T"}, {"&N|||||CaCbCcCdCeCf", "N"}, {"|T|||||WaWbWcWdWeWf", "T"},
		{"&N||CaCbCc", "&N||CdCeCf"}, {"|Ca&NFb", "||CcFd|WeWf"}, {"||||CaCbCcCdCe", "&NFz"}, {"T", "|T&||FaFbFc||FdFeFf"},
		{"&&&&&&&&&&&&&CnWmClWkCjWiChWgCfWeCdWcFbP", "P"}, {"&&&&&&&&&&&&&CnWmClWkCjWiChWgCfWeCdWcFbP", "&&&&&&&&&&&&&CnWmClWkCjWiChWgCfWeCdWcFbP"},
	} {
		checkNotCompared(t, six[0], six[1])
	}
	for _, s := range []string{"&&&&&CaCbCcCdCeCf", "|||||!CaCbCcCdCeCf", "&N|||||CaCbCcCdCeCf", "|T|||||WaWbWcWdWeWf", "|||||FaFbFcFdFeFf"} {
		checkEver(t, s, "")
		checkNotCompared(t, s, s)
	}
}

func TestNoCutsAreCompared(t *testing.T) {
	many := strings.Repeat("!", 1000000) + "P"
	for _, s := range append([]string{strings.Repeat("&", 41), strings.Repeat("|P", 20) + "P", "&&PT", "|PTN"}, noCuts...) {
		for _, other := range append([]string{"P", "T", "N", "Ca", "!Fa", "|P!P", "||||CaCbCcCdCe", "|||||CaCbCcCdCeCf", strings.Repeat("!", 39) + "P", s}, noCuts...) {
			checkNotCompared(t, s, other)
		}
		checkEver(t, s, "")
		if got := impl.SimplifyCut(s); got != "" {
			t.Errorf("SimplifyCut(%q) = %q, want none", s, got)
		}
		if got := twoOf(impl.OppositeOf(s)); got != none {
			t.Errorf("OppositeOf(%q) = %q, want none", s, got)
		}
	}
	if impl.CanCompare(many, "P") || impl.CanCompare("P", many) || impl.SameCuts(many, many) || impl.ImpliesCut("N", many) || impl.ImpliesCut(many, "T") || impl.IsNever(many) || impl.IsAlways(many) || impl.SimplifyCut(many) != "" {
		t.Error("a million signs are a cut")
	}
	if got := twoOf(impl.OppositeOf(many)); got != none {
		t.Error("a million signs have an opposite")
	}
}

// pointsInOrder returns the join points that may tell two cuts apart, in their order, empty if there are too many names.
func pointsInOrder(a string, b string) []impl.JoinPoint {
	names, other, sets := "", "", []string{""}
	for _, each := range letters {
		name := string(each)
		if !strings.Contains(a+b, name) {
			other = (other + name)[:1]
			continue
		}
		names += name
		for _, set := range slices.Clone(sets) {
			sets = append(sets, set+name)
		}
	}
	if len(names) > 5 {
		return nil
	}
	var points []impl.JoinPoint
	for _, last := range strings.Split(names+other, "") {
		for _, set := range sets {
			points = append(points, printIn(set+last))
			for _, name := range strings.Split(names+other, "") {
				points = append(points, callIn(name, set+last))
			}
		}
	}
	return points
}

func toldInOrder(a string, b string) string {
	for _, j := range pointsInOrder(a, b) {
		if isIn(a, j) != isIn(b, j) {
			return pointsText([]impl.JoinPoint{j})
		}
	}
	return ""
}

// compareIn compares cuts by their texts alone, over some join points.
func compareIn(a string, b string, points []impl.JoinPoint) compared {
	want := compared{can: true, same: true, implies: true, implied: true, told: toldInOrder(a, b)}
	for _, j := range points {
		inA, inB := isIn(a, j), isIn(b, j)
		want.same = want.same && inA == inB
		want.implies = want.implies && (!inA || inB)
		want.implied = want.implied && (!inB || inA)
	}
	return want
}

// otherCut returns a cut that often has the same join points as another one, or some more or less.
func otherCut(r *rand.Rand, s string, names string) string {
	more := randomCut(r, names, 1)
	list := []string{"!!" + s, "&" + s + s, "|" + s + "&" + s + more, "&" + s + "|" + more + s, "&" + s + more, "|" + s + more, "!" + s, scanOpposite(s), "!" + scanOpposite(s), more, randomCut(r, names, 2), randomCut(r, names, 3)}
	if other := list[r.Intn(len(list))]; isCut(other) {
		return other
	}
	return s
}

// TestComparedOverAllStacks compares cuts that name at most two procedures over all short stacks of these and of two more.
func TestComparedOverAllStacks(t *testing.T) {
	r := rand.New(rand.NewSource(37))
	counts := map[compared]int{}
	for range 4000 {
		names, points := "ac", []impl.JoinPoint(nil)
		if r.Intn(2) == 0 {
			names = "mz"
		}
		points = pointsOver(names + "bq")
		a := randomCut(r, names, 3)
		if !isCut(a) {
			continue
		}
		b := otherCut(r, a, names)
		want := compareIn(a, b, points)
		checkCompared(t, a, b, want)
		want.told = ""
		counts[want]++
		for s, all := range map[string]bool{"N": false, "T": true} {
			ever := !slices.ContainsFunc(points, func(j impl.JoinPoint) bool { return isIn(a, j) != all })
			if got := map[string]bool{"N": impl.IsNever(a), "T": impl.IsAlways(a)}[s]; got != ever {
				t.Errorf("%q is the same as %q: %v", a, s, got)
			}
		}
	}
	for _, kind := range []compared{{can: true}, {can: true, implies: true}, {can: true, implied: true}, {can: true, same: true, implies: true, implied: true}} {
		if counts[kind] < 200 {
			t.Errorf("too few of %+v: %v", kind, counts)
		}
	}
}

// randomStack returns a stack of some length up to the greatest one.
func randomStack(r *rand.Rand, names string) string {
	stack := ""
	for range 1 + r.Intn(20) {
		k := r.Intn(len(names))
		stack += names[k : k+1]
	}
	return stack
}

// wideCut returns a cut with many letters, or a longer text.
func wideCut(r *rand.Rand, names string) string {
	s := "P"
	for range 1 + r.Intn(12) {
		k, m := r.Intn(len(names)), r.Intn(3)
		s = "&|"[m/2:m/2+1] + s + []string{"C", "W", "F", "!F", "!C"}[r.Intn(5)] + names[k:k+1]
	}
	return s
}

// TestComparedOverLongStacks compares cuts that name more procedures, some of them too many.
func TestComparedOverLongStacks(t *testing.T) {
	r := rand.New(rand.NewSource(38))
	counts, many := map[bool]int{}, 0
	for i := range 3000 {
		names := []string{"abc", "bdnz", "abcde", "bcdef", "acegikm"}[i%5]
		a := randomCut(r, names, 4)
		if i%2 == 0 {
			a = wideCut(r, names)
		}
		if !isCut(a) {
			continue
		}
		b := otherCut(r, a, names)
		points := pointsInOrder(a, b)
		if points == nil {
			checkNotCompared(t, a, b)
			many++
			continue
		}
		want := compareIn(a, b, points)
		checkCompared(t, a, b, want)
		counts[want.same]++
		for range 50 {
			stack := randomStack(r, names+"q")
			j := printIn(stack)
			if r.Intn(2) == 0 {
				j = callIn(randomStack(r, names+"q")[:1], stack)
			}
			if want.same && isIn(a, j) != isIn(b, j) || want.implies && isIn(a, j) && !isIn(b, j) || want.implied && isIn(b, j) && !isIn(a, j) {
				t.Fatalf("%q and %q: %+v, but %v tells otherwise", a, b, want, j)
			}
		}
	}
	if counts[true] < 200 || counts[false] < 200 || many < 30 {
		t.Errorf("too few of some kind: %v, %d with too many names", counts, many)
	}
}

func checkSimplified(t *testing.T, s string, want string) {
	t.Helper()
	if got := impl.SimplifyCut(s); got != want {
		t.Errorf("SimplifyCut(%q) = %q, want %q", s, got, want)
	}
}

func TestSimplifiedCuts(t *testing.T) {
	for s, want := range map[string]string{
		"!T": "N", "!N": "T", "!!P": "P", "!!!P": "!P", "!!!!Fa": "Fa", "!!T": "T", "!!!T": "N", "!!!N": "T", "!!&PCa": "&PCa", "!!!|PCa": "!|PCa",
		"&TP": "P", "&PT": "P", "&NP": "N", "&PN": "N", "&TT": "T", "&TN": "N", "&NT": "N", "&NN": "N",
		"|TP": "T", "|PT": "T", "|NP": "P", "|PN": "P", "|TT": "T", "|TN": "T", "|NT": "T", "|NN": "N",
		"&T!P": "!P", "|!PN": "!P", "&|PCaT": "|PCa", "|N&PCa": "&PCa", "&N&PCa": "N", "||PCaT": "T",
		"&PP": "P", "|PP": "P", "&CaCa": "Ca", "|!Fa!Fa": "!Fa", "&|PCa|PCa": "|PCa", "|&PCa&PCa": "&PCa", "&!|PCa!|PCa": "!|PCa",
		"&P!P": "N", "&!PP": "N", "|P!P": "T", "|!PP": "T", "&Wa!Wa": "N", "|!FaFa": "T",
		"&!|PCa|PCa": "N", "||PCa!|PCa": "T", "&&PCa!&PCa": "N", "|!&PCa&PCa": "T",
		// Parts that become T or N, the same, or opposites when they were simplified.
		"&!TP": "N", "|!TP": "P", "&!NP": "P", "|P!N": "T", "&P|Ca!Ca": "P", "|P|Ca!Ca": "T", "&P&Ca!Ca": "N", "|P&Ca!Ca": "P", "||P!P&Ca!Ca": "T", "&&P!P|Ca!Ca": "N",
		"!&P!P": "T", "!|P!P": "N", "!&NP": "T", "!|TP": "N", "!&TP": "!P", "!&T!P": "P", "!|N!P": "P", "!|!PN": "P", "!!&P!P": "N",
		"&P!!P": "P", "&!!PP": "P", "&!!!P!P": "!P", "|&PTP": "P", "&|PNP": "P", "&&PT&TP": "P", "&&PP&PP": "P", "|&P|CaN&P!!Ca": "&PCa", "&|&PTCa|P&CaT": "|PCa", "&&PCa!!&PCa": "&PCa",
		"|!!!PP": "T", "&!!P!!!P": "N", "&&PT!P": "N", "||PN!P": "T", "&P!&PT": "N", "|!|PNP": "T", "&&PP!|PP": "N", "&|CaCa!&CaCa": "N", "|!&PCa!!&PCa": "T", "&!!&PCa!&!!PCa": "N", "|!&TPP": "T", "&!&T!PP": "P",
		"|&PT!P": "T", "|P|!PCa": "|P|!PCa", "|N|N|NCa": "Ca", "&&&PTTT": "P", "&|P!P|Ca!Ca": "T",
	} {
		checkSimplified(t, s, want)
	}
	for _, s := range []string{
		"P", "T", "N", "Ca", "Wz", "Fm", "!P", "!Ca", "!Wz", "!Fm", "!&PCa", "!|PCa",
		// Other rules might make less of these.
		"&PCa", "&CaP", "|PCa", "&CaCb", "&WaWb", "&Wa!Fa", "|WaFa", "&P!Ca", "&Ca!P", "&!P!Ca", "|!P!Ca", "!&!P!Ca", "!|!P!Ca", "&Wa!Wb",
		"&P&PCa", "&&PCaCa", "&P|PCa", "|P&PCa", "|P|!PCa", "&P&!PCa", "|&PCa&CaP", "&&PCa!&CaP", "|!&PCa|!P!Ca", "&!|PCa&!P!Ca", "&CaFa", "&CaWa", "&WaFa", "&FaWa",
		strings.Repeat("&", 13) + "CnWmClWkCjWiChWgCfWeCdWcFbP",
	} {
		checkSimplified(t, s, s)
	}
	not := strings.Repeat("!", 39)
	checkSimplified(t, not+"P", "!P")
	checkSimplified(t, not[:38]+"P", "P")
	checkSimplified(t, not[:38]+"Ca", "Ca")
	checkSimplified(t, not+"T", "N")
	checkSimplified(t, strings.Repeat("|P", 19)+"P", "P")
	checkSimplified(t, strings.Repeat("&T", 19)+"Ca", "Ca")
	checkSimplified(t, strings.Repeat("|N", 18)+"|PT", "T")
	checkSimplified(t, "!"+strings.Repeat("|N", 17)+"|CaN", "!Ca")
}

// simplifyText replaces parts of the text, the innermost ones first, until there is nothing to be replaced.
func simplifyText(s string) string {
	for end := len(s) - 1; end >= 0; end-- {
		if i := end; strings.IndexByte("!&|", s[i]) >= 0 {
			behind := cutEnd(s, i)
			if part := shorterPart(s[i:behind]); part != s[i:behind] {
				return simplifyText(s[:i] + part + s[behind:])
			}
		}
	}
	return s
}

// shorterPart replaces a cut with parts that are simplified.
func shorterPart(s string) string {
	middle := cutEnd(s, 1)
	first, second := s[1:middle], s[middle:]
	if second == "" {
		return strings.NewReplacer("!T", "N", "!N", "T", "!!", "").Replace(s[:2]) + s[2:]
	}
	names := "TN"
	if s[0] == '|' {
		names = "NT"
	}
	switch {
	case strings.Contains(" "+first+" "+second+" ", " "+names[1:]+" "):
		return names[1:]
	case first == names[:1] || first == second:
		return second
	case second == names[:1]:
		return first
	case first == "!"+second || second == "!"+first:
		return names[1:]
	default:
		return s
	}
}

// checkSimplifiedText checks what holds of all simplified cuts.
func checkSimplifiedText(t *testing.T, s string, points []impl.JoinPoint) {
	t.Helper()
	got := impl.SimplifyCut(s)
	if want := simplifyText(s); got != want || impl.SimplifyCut(got) != got || len(got) > len(s) {
		t.Fatalf("SimplifyCut(%q) = %q, and of it %q, want %q", s, got, impl.SimplifyCut(got), want)
	}
	if !slices.Equal(chosenBy(got, points), chosenBy(s, points)) {
		t.Fatalf("SimplifyCut(%q) = %q has not the same", s, got)
	}
	if got != "T" && got != "N" && strings.ContainsAny(got, "TN") || strings.Contains(got, "!!") {
		t.Fatalf("SimplifyCut(%q) = %q is not simplified", s, got)
	}
}

func TestShortSimplifiedCuts(t *testing.T) {
	cuts, shorter := 0, 0
	eachShortText("PTN!&|", 7, func(s string) {
		if !isCut(s) {
			return
		}
		cuts++
		checkSimplifiedText(t, s, []impl.JoinPoint{printIn("a"), callIn("a", "a")})
		if impl.SimplifyCut(s) != s {
			shorter++
		}
	})
	if cuts < 1000 || shorter == cuts {
		t.Errorf("%d of %d cuts become shorter", shorter, cuts)
	}
}

func TestSimplifiedCutsHaveTheSame(t *testing.T) {
	r := rand.New(rand.NewSource(39))
	points := pointsOver("abc")
	shorter := 0
	for range 4000 {
		s := randomCut(r, "ab", 4)
		if r.Intn(2) == 0 {
			s = otherCut(r, randomCut(r, "abd", 2), "ab")
		}
		if !isCut(s) {
			continue
		}
		checkSimplifiedText(t, s, points)
		got := impl.SimplifyCut(s)
		checkSame(t, s, got)
		if got != s && len(got) > 2 {
			shorter++
		}
	}
	if shorter < 300 {
		t.Errorf("just %d cuts were simplified in part", shorter)
	}
}

func checkOpposite(t *testing.T, s string, want string) {
	t.Helper()
	if got := twoOf(impl.OppositeOf(s)); got != some(want) {
		t.Errorf("OppositeOf(%q) = %q, want %q", s, got, want)
	}
}

func checkNoOpposite(t *testing.T, s string) {
	t.Helper()
	if got := twoOf(impl.OppositeOf(s)); got != none || !impl.CutValid(s) {
		t.Errorf("OppositeOf(%q) = %q, want none, though it is a cut", s, got)
	}
}

func TestOpposites(t *testing.T) {
	for s, want := range map[string]string{
		"P": "!P", "Ca": "!Ca", "Wb": "!Wb", "Fz": "!Fz", "T": "N", "N": "T", "!P": "P", "!Ca": "Ca", "!Wb": "Wb", "!Fz": "Fz", "!T": "T", "!N": "N",
		"&PCa": "|!P!Ca", "|PCa": "&!P!Ca", "&P!Ca": "|!PCa", "|!PCa": "&P!Ca", "&TN": "|NT", "|TP": "&N!P", "|P&CaT": "&!P|!CaN",
		"&|PCa|WaFb": "|&!P!Ca&!Wa!Fb", "|&P&CaWbFc": "&|!P|!Ca!Wb!Fc",
		// Opposites of opposites, and of what has opposites within it.
		"!!P": "!P", "!!!P": "P", "!!T": "N", "!!!T": "T", "!&PCa": "&PCa", "!|PCa": "|PCa", "!!&PCa": "|!P!Ca", "!!!|PCa": "|PCa",
		"&!|PCaFb": "||PCa!Fb", "|!&P!CaFb": "&&P!Ca!Fb", "&!!P!!!Ca": "|!PCa", "!&!|PCa!&WaFb": "&&!P!Ca|!Wa!Fb", "!|!P&!Ca!Wb": "|!P&!Ca!Wb", "!|!!P!&CaWb": "|P|!Ca!Wb",
		"!&!&!&PCaWbFc": "&|&PCa!WbFc", "&!&!&PCaWbFc": "|&|!P!CaWb!Fc", "!!&!!P!!T": "|!PN",
		// Nothing is simplified.
		"&PP": "|!P!P", "|P!P": "&!PP", "&TT": "|NN", "|N!N": "&TN", "&&PTN": "||!PNT", "!&PP": "&PP", "!|PN": "|PN",
	} {
		checkOpposite(t, s, want)
	}
}

func TestLimitOfOpposites(t *testing.T) {
	and, or := strings.Repeat("&", 19), strings.Repeat("|", 19)
	ts, ns := strings.Repeat("T", 19), strings.Repeat("N", 19)
	checkOpposite(t, and+ts+"T", or+ns+"N")
	checkOpposite(t, "!"+and+ts+"T", and+ts+"T")
	checkOpposite(t, "!"+or+strings.Repeat("P", 20), or+strings.Repeat("P", 20))
	// 39 bytes become 40, 40 bytes 40, and 40 bytes 41.
	checkOpposite(t, and[:18]+ts[:16]+"CaP!P", or[:18]+ns[:16]+"!Ca!PP")
	checkOpposite(t, and[:18]+ts[:17]+"Ca!Cb", or[:18]+ns[:17]+"!CaCb")
	checkOpposite(t, or[:18]+ns[:17]+"!WzFa", and[:18]+ts[:17]+"Wz!Fa")
	checkNoOpposite(t, and[:18]+ts[:16]+"CaCb!P")
	checkNoOpposite(t, or[:18]+ns[:17]+"CaCb")
	checkNoOpposite(t, or[:18]+ns[:16]+"CaWbFc")
	checkOpposite(t, "!"+and[:18]+ts[:17]+"CaCb", and[:18]+ts[:17]+"CaCb")
	// Shorter cuts, each part of which becomes longer.
	checkOpposite(t, strings.Repeat("&P", 12)+"P", strings.Repeat("|!P", 12)+"!P")
	checkOpposite(t, strings.Repeat("&P", 13)+"T", strings.Repeat("|!P", 13)+"N")
	checkOpposite(t, strings.Repeat("&P", 13)+"!P", strings.Repeat("|!P", 13)+"P")
	checkNoOpposite(t, strings.Repeat("&P", 13)+"P")
	checkNoOpposite(t, strings.Repeat("&P", 19)+"P")
	checkOpposite(t, strings.Repeat("|Ca", 9)+"Cb", strings.Repeat("&!Ca", 9)+"!Cb")
	checkOpposite(t, strings.Repeat("&!Ca", 9)+"!Cb", strings.Repeat("|Ca", 9)+"Cb")
	checkOpposite(t, strings.Repeat("|Ca", 9)+"|PT", strings.Repeat("&!Ca", 9)+"&!PN")
	checkNoOpposite(t, strings.Repeat("|Ca", 9)+"|PP")
	checkNoOpposite(t, strings.Repeat("|Ca", 10)+"T")
	checkNoOpposite(t, strings.Repeat("&", 13)+"CnWmClWkCjWiChWgCfWeCdWcFbP")
	// Signs of opposites alone.
	not := strings.Repeat("!", 39)
	checkOpposite(t, not+"P", "P")
	checkOpposite(t, not[:38]+"P", "!P")
	checkOpposite(t, not[:38]+"Ca", "!Ca")
	checkOpposite(t, not[:37]+"Ca", "Ca")
	checkOpposite(t, not+"T", "T")
	checkOpposite(t, not[:38]+"T", "N")
}

// scanOpposite returns the opposite of a cut, which may be too long for one; wanted are the opposites that are due at the cuts to come.
func scanOpposite(s string) string {
	text, wanted := "", []bool{true}
	for i := 0; i < len(s); i++ {
		due := wanted[len(wanted)-1]
		wanted = wanted[:len(wanted)-1]
		sign := s[i : i+1]
		switch {
		case sign == "!":
			wanted = append(wanted, !due)
		case sign == "&" || sign == "|":
			wanted = append(wanted, due, due)
			fallthrough
		case sign == "T" || sign == "N":
			if due {
				sign = map[string]string{"&": "|", "|": "&", "T": "N", "N": "T"}[sign]
			}
			text += sign
		default:
			if due {
				text += "!"
			}
			text += s[i:cutEnd(s, i)]
			i = cutEnd(s, i) - 1
		}
	}
	return text
}

// checkOppositeText checks what holds of all opposites, and returns whether there is one.
func checkOppositeText(t *testing.T, s string, points []impl.JoinPoint) bool {
	t.Helper()
	want := scanOpposite(s)
	if len(want) > 40 {
		checkNoOpposite(t, s)
		return false
	}
	checkOpposite(t, s, want)
	for _, j := range points {
		if impl.Matches(want, j) == impl.Matches(s, j) {
			t.Fatalf("OppositeOf(%q) = %q: %v is in both or in none", s, want, j)
		}
	}
	// The opposite of the opposite has the same, and the opposite of this one is the same text.
	if again, ok := impl.OppositeOf(want); ok {
		if !slices.Equal(chosenBy(again, points), chosenBy(s, points)) {
			t.Fatalf("OppositeOf(%q) = %q has not the same as %q", want, again, s)
		}
		checkOpposite(t, again, want)
	}
	return true
}

func TestShortOpposites(t *testing.T) {
	cuts := 0
	eachShortText("PTNC!&|a", 5, func(s string) {
		if isCut(s) {
			cuts++
			checkOppositeText(t, s, []impl.JoinPoint{printIn("a"), callIn("a", "a"), callIn("b", "a")})
		}
	})
	if cuts < 300 {
		t.Errorf("just %d cuts", cuts)
	}
}

func TestOppositesHaveAllOthers(t *testing.T) {
	r := rand.New(rand.NewSource(40))
	points := pointsOver("abc")
	have, lengths := map[bool]int{}, map[int]int{}
	for i := range 8000 {
		s := randomCut(r, "ab", 4)
		if i%2 == 0 {
			s = randomCut(r, "ab", 3)
			for length := 36 + r.Intn(6); len(scanOpposite(s)) < length; {
				s = []string{"&T", "|N", "|!P", "&Ca", "|!Fb"}[r.Intn(5)] + s
			}
		}
		if !isCut(s) {
			continue
		}
		lengths[len(scanOpposite(s))]++
		is := checkOppositeText(t, s, points)
		have[is]++
		if opposite, _ := impl.OppositeOf(s); is && len(s) < 40 {
			checkSame(t, "!"+s, opposite)
			checkEver(t, "!"+s, map[bool]string{true: "always"}[impl.IsNever(s)]+map[bool]string{true: "never"}[impl.IsAlways(s)])
		}
	}
	if have[true] < 2000 || have[false] < 100 || lengths[40] < 20 || lengths[41] < 20 {
		t.Errorf("too few of some kind: %v, lengths %v", have, lengths)
	}
}

func TestAlgebraAgain(t *testing.T) {
	ask := func() []string {
		told := tellPoint(t, "||WaWbWc", "||FaFbFc") + tellPoint(t, "&We|Fd&FbFc", "N")
		opposite, _ := impl.OppositeOf("&|PCa|WaFb")
		return []string{told, opposite, impl.SimplifyCut("&|&PTCa|P&CaT")}
	}
	want := []string{"print in adprint in bce", "|&!P!Ca&!Wa!Fb", "|PCa"}
	var group sync.WaitGroup
	for range 8 {
		group.Go(func() {
			for range 50 {
				if got := ask(); !slices.Equal(got, want) || !impl.SameCuts("|WaFa", "Fa") || impl.ImpliesCut("Fa", "Wa") || !impl.IsNever("&Wa!Fa") {
					t.Errorf("%q, want %q", got, want)
				}
			}
		})
	}
	group.Wait()
}
