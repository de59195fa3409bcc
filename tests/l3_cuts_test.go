package tests

import (
	"math"
	"math/rand"
	"slices"
	"strings"
	"testing"

	"loop.example/wovenprograms/impl"
)

func printIn(stack string) impl.JoinPoint { return impl.JoinPoint{Kind: "print", Stack: stack} }

func callIn(name string, stack string) impl.JoinPoint {
	return impl.JoinPoint{Kind: "call", Name: name, Stack: stack}
}

// A wholeCut is all that is told of a cut without a join point.
type wholeCut struct {
	words string
	names string
	asks  bool
}

func checkCut(t *testing.T, s string, want wholeCut) {
	t.Helper()
	got := wholeCut{impl.ShowCut(s), impl.CutNames(s), impl.AsksActive(s)}
	if !impl.CutValid(s) || got != want {
		t.Errorf("%q: CutValid %v, %+v, want %+v", s, impl.CutValid(s), got, want)
	}
}

// checkNoCut asks every function that gets a cut.
func checkNoCut(t *testing.T, s string) {
	t.Helper()
	got := wholeCut{impl.ShowCut(s), impl.CutNames(s), impl.AsksActive(s)}
	if impl.CutValid(s) || got != (wholeCut{}) {
		t.Errorf("%q: CutValid %v, %+v, want no cut", s, impl.CutValid(s), got)
	}
	for _, j := range []impl.JoinPoint{printIn("a"), callIn("a", "a"), callIn("b", "ab"), {}} {
		if impl.Matches(s, j) {
			t.Errorf("Matches(%q, %v)", s, j)
		}
	}
	checkNoMatches(t, "a:PCa", "a", 0, s)
}

func checkMatches(t *testing.T, w string, name string, value int, s string, want string) {
	t.Helper()
	list, ok := impl.MatchesOf(w, name, value, s)
	if got := pointsText(list); !ok || got != want {
		t.Errorf("MatchesOf(%q, %q, %d, %q) = %q, %v, want %q", w, name, value, s, got, ok, want)
	}
}

func checkNoMatches(t *testing.T, w string, name string, value int, s string) {
	t.Helper()
	if list, ok := impl.MatchesOf(w, name, value, s); ok || len(list) != 0 {
		t.Errorf("MatchesOf(%q, %q, %d, %q) = %v, %v, want none", w, name, value, s, list, ok)
	}
}

func TestCutsOfTheGrammar(t *testing.T) {
	for s, want := range map[string]wholeCut{
		"P":             {"print", "", false},
		"T":             {"always", "", false},
		"N":             {"never", "", false},
		"Ca":            {"call a", "a", false},
		"Cz":            {"call z", "z", false},
		"Wa":            {"within a", "a", false},
		"Wz":            {"within z", "z", false},
		"Fa":            {"active a", "a", true},
		"Fz":            {"active z", "z", true},
		"!T":            {"not always", "", false},
		"!!N":           {"not not never", "", false},
		"!!!Fm":         {"not not not active m", "m", true},
		"&TN":           {"(always and never)", "", false},
		"|TN":           {"(always or never)", "", false},
		"&P!Wb":         {"(print and not within b)", "b", false},
		"!&PWb":         {"not (print and within b)", "b", false},
		"&FzCa":         {"(active z and call a)", "az", true},
		"|CaFz":         {"(call a or active z)", "az", true},
		"&|CqPWd":       {"((call q or print) and within d)", "dq", false},
		"|Cq&PWd":       {"(call q or (print and within d))", "dq", false},
		"&&PTN":         {"((print and always) and never)", "", false},
		"&P&TN":         {"(print and (always and never))", "", false},
		"||P!|TN!&NT":   {"((print or not (always or never)) or not (never and always))", "", false},
		"&|FaFa|CaWa":   {"((active a or active a) and (call a or within a))", "a", true},
		"&&Cc|CaWb!!Wc": {"((call c and (call a or within b)) and not not within c)", "abc", false},
	} {
		checkCut(t, s, want)
	}
	for _, s := range []string{
		"", " ", "!", "&", "|", "C", "W", "F", "!C", "!!", "&P", "|P", "&&PP", "&|", "&PC", "&CP", "|FW",
		"PP", "PT", "TP", "NN", "CaP", "Cab", "CaCb", "FaP", "!PP", "&PPP", "&PTN", "P ", " P", "P\n", "! P", "& P T", "C a",
		"CA", "CZ", "C1", "C!", "CC", "C`", "C{", "C\x00", "C\xff", "Cä", "WP", "FF", "F?",
		"p", "t", "n", "ca", "wa", "fa", "a", "x", "X", "K", "?", "()", "(P)", "P&T", "PT&", "aC", "+1", "-", "*", "\x00", "\xff", "ä", "Ｐ", "！P",
	} {
		checkNoCut(t, s)
	}
}

func TestLimitOfCuts(t *testing.T) {
	not := strings.Repeat("!", 40)
	checkCut(t, not[:38]+"P", wholeCut{strings.Repeat("not ", 38) + "print", "", false})
	checkCut(t, not[:39]+"P", wholeCut{strings.Repeat("not ", 39) + "print", "", false})
	checkCut(t, not[:38]+"Fx", wholeCut{strings.Repeat("not ", 38) + "active x", "x", true})
	checkNoCut(t, not[:40]+"P")
	checkNoCut(t, not[:39]+"Fx")
	// 13 signs and 14 letters are 40 bytes where one of them is no procedure, and otherwise 41.
	and := strings.Repeat("&", 13)
	procs := "CnWmClWkCjWiChWgCfWeCdWcFb"
	checkCut(t, and+procs+"P", wholeCut{strings.Repeat("(", 13) + "call n and within m) and call l) and within k) and call j) and within i) and call h) and within g) and call f) and within e) and call d) and within c) and active b) and print)", "bcdefghijklmn", true})
	checkNoCut(t, and+procs+"Fa")
	checkCut(t, strings.Repeat("|P", 19)+"Fa", wholeCut{strings.Repeat("(print or ", 19) + "active a" + strings.Repeat(")", 19), "a", true})
	checkNoCut(t, strings.Repeat("|P", 20)+"P")
	for _, sign := range []string{"!", "&", "|", "P", "C", "Ca", "|P"} {
		for _, n := range []int{41, 100} {
			checkNoCut(t, strings.Repeat(sign, n))
			checkNoCut(t, strings.Repeat(sign, n)+"P")
		}
		if impl.CutValid(strings.Repeat(sign, 1000000) + "P") {
			t.Errorf("a million of %q", sign)
		}
	}
	for n := range 40 {
		if j := printIn("a"); impl.Matches(not[:n]+"P", j) != (n%2 == 0) || impl.Matches(not[:n]+"N", j) != (n%2 == 1) {
			t.Errorf("Matches of %d signs !", n)
		}
	}
}

// cutEnd returns the index behind the cut at i, -1 if there is none.
func cutEnd(s string, i int) int {
	switch {
	case i < 0 || i >= len(s):
		return -1
	case strings.Contains("PTN", s[i:i+1]):
		return i + 1
	case strings.Contains("CWF", s[i:i+1]):
		if i+1 < len(s) && strings.Contains(letters, s[i+1:i+2]) {
			return i + 2
		}
	case s[i] == '!':
		return cutEnd(s, i+1)
	case s[i] == '&' || s[i] == '|':
		return cutEnd(s, cutEnd(s, i+1))
	}
	return -1
}

func isCut(s string) bool { return len(s) <= 40 && cutEnd(s, 0) == len(s) }

// tellCut returns what is to be told of a cut.
func tellCut(s string) wholeCut {
	words, names := "", ""
	for i, name := range letters {
		if strings.Contains(s, letters[i:i+1]) {
			names += string(name)
		}
	}
	switch s[0] {
	case 'P', 'T', 'N':
		words = map[string]string{"P": "print", "T": "always", "N": "never"}[s]
	case '!':
		words = "not " + tellCut(s[1:]).words
	case '&', '|':
		middle := cutEnd(s, 1)
		between := map[byte]string{'&': " and ", '|': " or "}[s[0]]
		words = "(" + tellCut(s[1:middle]).words + between + tellCut(s[middle:]).words + ")"
	default:
		words = map[byte]string{'C': "call ", 'W': "within ", 'F': "active "}[s[0]] + s[1:]
	}
	return wholeCut{words, names, strings.Contains(s, "F")}
}

func TestShortCuts(t *testing.T) {
	cuts := 0
	eachShortText("PNCWF!&|ab", 5, func(s string) {
		if isCut(s) {
			cuts++
			checkCut(t, s, tellCut(s))
		} else if impl.CutValid(s) || impl.ShowCut(s) != "" || impl.CutNames(s) != "" || impl.AsksActive(s) {
			t.Fatalf("%q is no cut", s)
		}
	})
	if cuts < 400 {
		t.Errorf("just %d cuts", cuts)
	}
}

// TestArbitraryBytesInCuts puts each byte into each place of cuts.
func TestArbitraryBytesInCuts(t *testing.T) {
	for _, s := range []string{"&P!Wb", "|Ca&FzT", "!!N", "&&CaWbFc"} {
		for b := range 256 {
			sign := string([]byte{byte(b)})
			for i := 0; i <= len(s); i++ {
				for _, text := range []string{s[:i] + sign + s[i:], s[:i] + sign + s[min(i+1, len(s)):]} {
					if isCut(text) {
						checkCut(t, text, tellCut(text))
					} else {
						checkNoCut(t, text)
					}
				}
			}
		}
	}
}

func TestJoinPointsThatAreValid(t *testing.T) {
	for _, stack := range []string{"a", "z", "ab", "ba", "aa", letters[:19], letters[:20], letters[6:], strings.Repeat("m", 20)} {
		if j := printIn(stack); !impl.JoinPointValid(j) || impl.FormatPoint(j) != "print in "+stack || !impl.Matches("T", j) {
			t.Errorf("%v: %v, %q", j, impl.JoinPointValid(j), impl.FormatPoint(j))
		}
		for _, letter := range letters {
			name := string(letter)
			if j := callIn(name, stack); !impl.JoinPointValid(j) || impl.FormatPoint(j) != "call "+name+" in "+stack || !impl.Matches("T", j) {
				t.Errorf("%v: %v, %q", j, impl.JoinPointValid(j), impl.FormatPoint(j))
			}
		}
	}
}

func TestJoinPointsThatAreNotValid(t *testing.T) {
	list := []impl.JoinPoint{{}, {Stack: "a"}, {Name: "a", Stack: "a"}, printIn(""), callIn("a", "")}
	stacks := []string{letters[:21], letters, strings.Repeat("a", 21), strings.Repeat("a", 1000), "a b", "aBc", "1a", "a\x00", "\xffa", "aäa", "ａ", "`a", "a{", " a", "a\n"}
	for _, stack := range append(stacks, wrongNames...) {
		if stack != "ab" && stack != "aa" {
			list = append(list, printIn(stack), callIn("a", stack))
		}
	}
	for _, name := range wrongNames {
		list = append(list, callIn(name, "a"))
		if name != "" {
			list = append(list, impl.JoinPoint{Kind: "print", Name: name, Stack: "a"})
		}
	}
	for _, kind := range []string{"", "x", "Call", "CALL", "Print", "call ", " call", "print ", "calls", "prin", "C", "P", "call\x00", "callprint", "before"} {
		list = append(list, impl.JoinPoint{Kind: kind, Stack: "a"}, impl.JoinPoint{Kind: kind, Name: "a", Stack: "a"})
	}
	list = append(list, impl.JoinPoint{Kind: "print", Name: "a", Stack: "a"}, callIn("", "a"))
	for _, j := range list {
		if impl.JoinPointValid(j) || impl.FormatPoint(j) != "" {
			t.Errorf("%+v: %v, %q, want no valid one", j, impl.JoinPointValid(j), impl.FormatPoint(j))
		}
		// No cut has it, not even one that has all that another one has not.
		for _, s := range []string{"T", "N", "P", "Ca", "Wa", "Fa", "!T", "!N", "!P", "!Ca", "!Wa", "!Fa", "|P!P", "|Ca!Ca"} {
			if impl.Matches(s, j) {
				t.Errorf("Matches(%q, %+v)", s, j)
			}
		}
	}
}

func TestMatchesOfEachSign(t *testing.T) {
	for _, c := range []struct {
		j   impl.JoinPoint
		has string
	}{
		{printIn("a"), "P T Wa Fa"},
		{printIn("ab"), "P T Wb Fa Fb"},
		{printIn("aba"), "P T Wa Fa Fb"},
		{printIn("cab"), "P T Wb Fa Fb Fc"},
		{printIn("zz"), "P T Wz Fz"},
		// What is called is not yet active, and who calls is not called.
		{callIn("b", "a"), "T Cb Wa Fa"},
		{callIn("a", "a"), "T Ca Wa Fa"},
		{callIn("c", "ab"), "T Cc Wb Fa Fb"},
		{callIn("a", "zcz"), "T Ca Wz Fc Fz"},
		{callIn("z", "b"), "T Cz Wb Fb"},
		{callIn("z", strings.Repeat("b", 19)+"a"), "T Cz Wa Fa Fb"},
	} {
		for _, s := range strings.Fields("P T N Ca Cb Cc Cz Wa Wb Wc Wz Fa Fb Fc Fz") {
			want := slices.Contains(strings.Fields(c.has), s)
			if impl.Matches(s, c.j) != want || impl.Matches("!"+s, c.j) == want || impl.Matches("!!"+s, c.j) != want {
				t.Errorf("Matches(%q, %v): %v, of ! %v, of !! %v, want %v", s, c.j, impl.Matches(s, c.j), impl.Matches("!"+s, c.j), impl.Matches("!!"+s, c.j), want)
			}
		}
	}
}

func TestTruthOfPairs(t *testing.T) {
	j := printIn("a")
	for s, want := range map[string]bool{
		"&TT": true, "&TN": false, "&NT": false, "&NN": false,
		"|TT": true, "|TN": true, "|NT": true, "|NN": false,
		"!&TN": true, "!|TN": false, "&!NT": true, "|!TN": false, "&T!N": true, "|N!T": false,
		"&|TNN": false, "&|NTT": true, "|T&NN": true, "|&TNN": false, "||NNT": true, "&&TTN": false,
		"!&!N!N": false, "!|!T!T": true, "!!&TT": true, "!!|NN": false, "!!!&TN": true,
	} {
		if impl.Matches(s, j) != want {
			t.Errorf("Matches(%q), want %v", s, want)
		}
	}
}

// isIn tells a cut from its text alone whether it has a join point.
func isIn(s string, j impl.JoinPoint) bool {
	middle := max(0, cutEnd(s, 1))
	switch s[0] {
	case 'P':
		return j.Kind == "print"
	case 'T', 'N':
		return s == "T"
	case 'C':
		return j.Kind+j.Name == "call"+s[1:]
	case 'W':
		return strings.HasSuffix(j.Stack, s[1:])
	case 'F':
		return strings.Contains(j.Stack, s[1:])
	case '!':
		return !isIn(s[1:], j)
	case '&':
		return isIn(s[1:middle], j) && isIn(s[middle:], j)
	default:
		return isIn(s[1:middle], j) || isIn(s[middle:], j)
	}
}

// chosenBy returns, for each of some join points, whether a cut has it.
func chosenBy(s string, points []impl.JoinPoint) []bool {
	var chosen []bool
	for _, j := range points {
		chosen = append(chosen, impl.Matches(s, j))
	}
	return chosen
}

// pointsOver returns all join points with a stack of at most three of some letters.
func pointsOver(names string) []impl.JoinPoint {
	var list []impl.JoinPoint
	stacks := []string{""}
	for range 3 {
		var longer []string
		for _, stack := range stacks {
			for _, name := range names {
				longer = append(longer, stack+string(name))
			}
		}
		for _, stack := range longer {
			list = append(list, printIn(stack))
			for _, name := range names {
				list = append(list, callIn(string(name), stack))
			}
		}
		stacks = longer
	}
	return list
}

func randomCut(r *rand.Rand, names string, depth int) string {
	name := string(names[r.Intn(len(names))])
	switch k := r.Intn(9 + 6*min(depth, 1)); {
	case k < 3:
		return string("PTN"[k])
	case k < 9:
		return string("CWF"[k%3]) + name
	case k < 11:
		return "!" + randomCut(r, names, depth-1)
	default:
		return string("&|"[k%2]) + randomCut(r, names, depth-1) + randomCut(r, names, depth-1)
	}
}

func TestSignsAreThoseOfSets(t *testing.T) {
	r := rand.New(rand.NewSource(6))
	points := pointsOver("abc")
	for range 1000 {
		a, b, c := randomCut(r, "abcd", 2), randomCut(r, "abcd", 2), randomCut(r, "abcd", 1)
		checkCut(t, a, tellCut(a))
		for _, j := range points {
			if got := impl.Matches(a, j); got != isIn(a, j) {
				t.Fatalf("Matches(%q, %v) = %v", a, j, got)
			}
		}
		for _, same := range [][2]string{
			{"!!" + a, a}, {"&" + a + a, a}, {"|" + a + a, a}, {"&" + a + "T", a}, {"|" + a + "N", a},
			{"&" + a + "!" + a, "N"}, {"|" + a + "!" + a, "T"}, {"&" + a + b, "&" + b + a}, {"|" + a + b, "|" + b + a},
			{"!&" + a + b, "|!" + a + "!" + b}, {"!|" + a + b, "&!" + a + "!" + b},
			{"&" + a + "|" + a + b, a}, {"|" + a + "&" + a + b, a},
			{"&" + c + "|" + a + b, "|&" + c + a + "&" + c + b}, {"|" + c + "&" + a + b, "&|" + c + a + "|" + c + b},
			{"&" + a + "&" + b + c, "&&" + a + b + c}, {"|" + a + "|" + b + c, "||" + a + b + c},
		} {
			if len(same[0]) <= 40 && len(same[1]) <= 40 && !slices.Equal(chosenBy(same[0], points), chosenBy(same[1], points)) {
				t.Fatalf("%q and %q do not have the same", same[0], same[1])
			}
		}
	}
	// A procedure that runs is active, and all that is no print is a call.
	for s, want := range map[string]string{"&Wa!Fa": "N", "|PCa": "!&!P!Ca", "&PCa": "N", "&CaCb": "N", "&WaWb": "N", "||WaWbWc": "T", "||FaFbFc": "T", "|P||CaCbCc": "T", "Cd": "N", "Wd": "N", "Fd": "N", "!Fd": "T"} {
		if !slices.Equal(chosenBy(s, points), chosenBy(want, points)) {
			t.Errorf("%q and %q do not have the same", s, want)
		}
	}
}

func TestMatchesOfRuns(t *testing.T) {
	w := "a:PCbCc;b:?[P-1CcCb][];c:P"
	for s, want := range map[string]string{
		"P":     "print in a, print in ab, print in abc, print in ac",
		"Cb":    "call b in a, call b in ab",
		"Cc":    "call c in ab, call c in a",
		"Ca":    "",
		"Wa":    "print in a, call b in a, call c in a",
		"Wb":    "print in ab, call c in ab, call b in ab",
		"Wc":    "print in abc, print in ac",
		"Fb":    "print in ab, call c in ab, print in abc, call b in ab",
		"Fa":    "print in a, call b in a, print in ab, call c in ab, print in abc, call b in ab, call c in a, print in ac",
		"T":     "print in a, call b in a, print in ab, call c in ab, print in abc, call b in ab, call c in a, print in ac",
		"N":     "",
		"!P":    "call b in a, call c in ab, call b in ab, call c in a",
		"&P!Wb": "print in a, print in abc, print in ac",
		"&PFb":  "print in ab, print in abc",
		"|CbWc": "call b in a, print in abc, call b in ab, print in ac",
		// Names of no procedure, of this program or of any.
		"Cz": "", "Wz": "", "Fz": "", "&PFz": "",
		"!Fz":   "print in a, call b in a, print in ab, call c in ab, print in abc, call b in ab, call c in a, print in ac",
		"|CzWc": "print in abc, print in ac",
	} {
		checkMatches(t, w, "a", 1, s, want)
	}
	checkMatches(t, w, "b", 1, "Fa", "")
	checkMatches(t, w, "b", 1, "Wb", "print in b, call c in b, call b in b")
	checkMatches(t, w, "b", 0, "T", "")
	checkMatches(t, w, "c", 0, "|PFa", "print in c")
	checkMatches(t, "z:", "z", 0, "T", "")
}

func TestMatchesOfRunsThatEndBefore(t *testing.T) {
	stack := strings.Repeat("a", 20)
	checkMatches(t, "a:CaP", "a", 0, "P", "")
	checkMatches(t, "a:CaP", "a", 0, "Ca", callsDown(stack, ", call a in "+stack))
	checkMatches(t, "a:Ca;z:PCa", "z", 0, "&Fz!Ca", "print in z")
	w, _ := afterSteps(500, "P")
	checkMatches(t, w, "a", 3, "P", "print in a")
	w, calls := afterSteps(500, "Cc")
	checkMatches(t, w, "a", 3, "T", calls+", call c in a")
	checkMatches(t, w, "a", 3, "Cc", "call c in a")
	checkMatches(t, w, "a", 3, "Wc", "")
}

func TestNoMatchesOfRuns(t *testing.T) {
	w := "a:PCb;b:P"
	for _, name := range append([]string{"c", "z", "Ca"}, wrongNames...) {
		checkNoMatches(t, w, name, 0, "T")
		checkNoMatches(t, w, name, 0, "N")
	}
	for _, value := range []int{-10000, 10000, math.MinInt, math.MaxInt, 1 << 40, -1 << 40} {
		checkNoMatches(t, w, "a", value, "T")
	}
	for _, value := range []int{-9999, -1, 0, 9999} {
		checkMatches(t, w, "a", value, "P", "print in a, print in ab")
	}
	for _, text := range []string{"", "a", "P", "a:Cb", "b:;a:", "a:;a:", "a:K", "a:?[P]", "a:P ", "\xff", "a:" + strings.Repeat("P", 399)} {
		checkNoMatches(t, text, "a", 0, "P")
		checkNoMatches(t, text, "a", 0, "")
	}
	checkNoMatches(t, w, "a", 0, "")
	checkNoMatches(t, w, "a", 0, "x")
	checkNoMatches(t, w, "a", 0, "P ")
}

// TestMatchesOfAreThoseOfJoinPoints chooses of the join points of runs one by one.
func TestMatchesOfAreThoseOfJoinPoints(t *testing.T) {
	r := rand.New(rand.NewSource(7))
	chosen, kept := 0, 0
	for range 2000 {
		names, bodies := randomProgram(r)
		w := programText(names, bodies)
		k := r.Intn(len(names))
		name, value, s := names[k:k+1], randomValue(r), randomCut(r, names+"q", 2)
		points, _ := impl.JoinPointsOf(w, name, value)
		var want []impl.JoinPoint
		for _, j := range points {
			if !impl.JoinPointValid(j) {
				t.Fatalf("%q, %q, %d: join point %v is not valid", w, name, value, j)
			}
			if isIn(s, j) {
				want = append(want, j)
			}
		}
		checkMatches(t, w, name, value, s, pointsText(want))
		chosen += len(want)
		kept += len(points) - len(want)
	}
	if chosen < 1000 || kept < 1000 {
		t.Errorf("cuts have %d join points, and %d not", chosen, kept)
	}
}

func TestMatchesShareNoMemory(t *testing.T) {
	w := "a:PCbP;b:P"
	first, _ := impl.MatchesOf(w, "a", 5, "P")
	second, _ := impl.MatchesOf(w, "a", 5, "P")
	for i := range first {
		first[i] = impl.JoinPoint{}
	}
	_ = append(first[:0], callIn("q", "q"))
	if got := pointsText(second); got != "print in a, print in ab, print in a" {
		t.Errorf("%q after another result was changed", got)
	}
}
