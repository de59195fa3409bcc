package tests

import (
	"math/rand"
	"slices"
	"strings"
	"testing"

	"loop.example/wovenprograms/impl"
)

func printAt(within string) impl.Shadow { return impl.Shadow{Kind: "print", Within: within} }

func callAt(name string, within string) impl.Shadow {
	return impl.Shadow{Kind: "call", Name: name, Within: within}
}

// pointOf returns the join point of a shadow with a stack.
func pointOf(h impl.Shadow, stack string) impl.JoinPoint {
	return impl.JoinPoint{Kind: h.Kind, Name: h.Name, Stack: stack}
}

// shadowsText writes shadows as join points whose stacks are Within.
func shadowsText(list []impl.Shadow) string {
	var points []impl.JoinPoint
	for _, h := range list {
		points = append(points, pointOf(h, h.Within))
	}
	return pointsText(points)
}

func checkShadows(t *testing.T, w string, want string) {
	t.Helper()
	if got := shadowsText(impl.ShadowsOf(w)); got != want {
		t.Errorf("ShadowsOf(%q) = %q, want %q", w, got, want)
	}
}

func checkKnownAt(t *testing.T, s string, h impl.Shadow, want string) {
	t.Helper()
	if got := impl.KnownAt(s, h); got != want {
		t.Errorf("KnownAt(%q, %+v) = %q, want %q", s, h, got, want)
	}
}

func checkKnownFrom(t *testing.T, w string, start string, s string, h impl.Shadow, want string) {
	t.Helper()
	if got := impl.KnownFrom(w, start, s, h); got != want {
		t.Errorf("KnownFrom(%q, %q, %q, %+v) = %q, want %q", w, start, s, h, got, want)
	}
}

func checkCounts(t *testing.T, w string, s string, yes int, no int, open int) {
	t.Helper()
	if a, b, c := impl.CountKnown(w, s); a != yes || b != no || c != open {
		t.Errorf("CountKnown(%q, %q) = %d, %d, %d, want %d, %d, %d", w, s, a, b, c, yes, no, open)
	}
}

func checkActive(t *testing.T, w string, start string, within string, must string, may string) {
	t.Helper()
	if got := impl.MustBeActive(w, start, within); got != must {
		t.Errorf("MustBeActive(%q, %q, %q) = %q, want %q", w, start, within, got, must)
	}
	if got := impl.MayBeActive(w, start, within); got != may {
		t.Errorf("MayBeActive(%q, %q, %q) = %q, want %q", w, start, within, got, may)
	}
}

func TestShadowsInOrder(t *testing.T) {
	for _, c := range [][2]string{
		{"a:CbCc;b:Cc;c:P", "call b in a, call c in a, call c in b, print in c"},
		{"a:", ""},
		{"a:+1-2*3", ""},
		{"a:?[][]", ""},
		{"a:P", "print in a"},
		{"z:PCzP", "print in z, call z in z, print in z"},
		// Statements that are the same are shadows each by itself.
		{"a:PPCaCa", "print in a, print in a, call a in a, call a in a"},
		{"a:Cz;m:;z:CmP", "call z in a, call m in z, print in z"},
		// Those of procedures that are never called too.
		{"a:;b:PCb;c:Ca", "print in b, call b in b, call a in c"},
		{"a:?[P][Ca]", "print in a, call a in a"},
		{"a:?[CaP][]P?[][PCb];b:", "call a in a, print in a, print in a, print in a, call b in a"},
		{"a:Ca?[?[P][Cb]Cc][?[][?[Cd][P]]Cb]P;b:P;c:;d:", "call a in a, print in a, call b in a, call c in a, call d in a, print in a, call b in a, print in a, print in b"},
	} {
		checkShadows(t, c[0], c[1])
	}
	if got := impl.ShadowsOf("a:" + strings.Repeat("P", 398)); len(got) != 398 || got[397] != printAt("a") {
		t.Errorf("ShadowsOf 398 prints = %v", got)
	}
	deep := strings.Repeat("?[", 79) + "P" + strings.Repeat("][]", 79)
	checkShadows(t, "a:"+deep, "print in a")
}

var noPrograms = []string{"", "a", "P", ":", "a:;", "a:Cb", "b:;a:", "a:;a:", "a:K", "a:+", "a:P ", "A:P", "a:?[P]", "a:?[P][Cb]", "a:P\x00", "\xff", "a:" + strings.Repeat("P", 399)}

func TestShadowsOfNoProgram(t *testing.T) {
	for _, w := range noPrograms {
		checkShadows(t, w, "")
		checkCounts(t, w, "P", -1, -1, -1)
		checkCounts(t, w, "x", -1, -1, -1)
		checkActive(t, w, "a", "a", "", "")
		checkActive(t, w, "", "", "", "")
		checkKnownFrom(t, w, "a", "P", printAt("a"), "")
	}
}

func TestKnownOfEachSign(t *testing.T) {
	signs := strings.Fields("P T N Ca Cb Cc Cz Wa Wb Wc Wz Fa Fb Fc Fz")
	for _, c := range []struct {
		h    impl.Shadow
		yes  string
		open string
	}{
		{printAt("a"), "P T Wa Fa", "Fb Fc Fz"},
		{printAt("b"), "P T Wb Fb", "Fa Fc Fz"},
		{printAt("z"), "P T Wz Fz", "Fa Fb Fc"},
		// What is called need not be active yet, but may be.
		{callAt("b", "a"), "T Cb Wa Fa", "Fb Fc Fz"},
		{callAt("a", "a"), "T Ca Wa Fa", "Fb Fc Fz"},
		{callAt("c", "z"), "T Cc Wz Fz", "Fa Fb Fc"},
		{callAt("z", "b"), "T Cz Wb Fb", "Fa Fc Fz"},
		// Letters that none of these names.
		{callAt("m", "m"), "T", "Fa Fb Fc Fz"},
		{printAt("q"), "P T", "Fa Fb Fc Fz"},
	} {
		for _, s := range signs {
			want, opposite := "no", "yes"
			switch {
			case slices.Contains(strings.Fields(c.yes), s):
				want, opposite = "yes", "no"
			case slices.Contains(strings.Fields(c.open), s):
				want, opposite = "open", "open"
			}
			checkKnownAt(t, s, c.h, want)
			checkKnownAt(t, "!"+s, c.h, opposite)
			checkKnownAt(t, "!!"+s, c.h, want)
		}
	}
	for _, letter := range letters {
		checkKnownAt(t, "F"+string(letter), printAt(string(letter)), "yes")
		checkKnownAt(t, "F"+string(letter), callAt("a", string(letter)), "yes")
	}
}

func TestKnownOfPairs(t *testing.T) {
	cuts := map[string]string{"yes": "T", "no": "N", "open": "Fb"}
	for _, c := range [][4]string{
		{"yes", "yes", "yes", "yes"}, {"yes", "no", "no", "yes"}, {"yes", "open", "open", "yes"},
		{"no", "yes", "no", "yes"}, {"no", "no", "no", "no"}, {"no", "open", "no", "open"},
		{"open", "yes", "open", "yes"}, {"open", "no", "no", "open"}, {"open", "open", "open", "open"},
	} {
		pair := cuts[c[0]] + cuts[c[1]]
		for _, h := range []impl.Shadow{printAt("a"), callAt("b", "a")} {
			checkKnownAt(t, "&"+pair, h, c[2])
			checkKnownAt(t, "|"+pair, h, c[3])
			checkKnownFrom(t, "a:CbPCz;b:Ca;z:", "a", "&"+pair, h, c[2])
			checkKnownFrom(t, "a:CbPCz;b:Ca;z:", "a", "|"+pair, h, c[3])
		}
	}
}

// TestKnownThoughAPartIsOpen asks cuts of which a part is open and the whole is known, and some that are open though all of their join points are the same.
func TestKnownThoughAPartIsOpen(t *testing.T) {
	h := printAt("c")
	for s, want := range map[string]string{
		"&CbFb": "no", "&FbCb": "no", "|PFb": "yes", "|FbP": "yes", "&PFb": "open", "|CbFb": "open",
		"&Wa!Fa": "no", "|Fa!Wa": "yes", "&WcFc": "yes", "&Wc!Fc": "no", "|!WcFc": "yes",
		"!&NFb": "yes", "!|TFb": "no", "!&TFb": "open", "!|NFb": "open", "&!P!Fb": "no", "|!Cb!Fb": "yes",
		"&&TFbN": "no", "&T&FbN": "no", "||NFbT": "yes", "|N|FbT": "yes", "&|FbTFc": "yes", "|&FbNN": "no", "&|FbTFa": "open", "|&FbNFa": "open",
		"&FbFc": "open", "|FbFc": "yes", "&Fb!Fc": "no", "|Fb!Fc": "open",
		// Just what is known of the parts is asked.
		"|Fb!Fb": "open", "&Fb!Fb": "open", "!|Fb!Fb": "open", "|FbFb": "open",
	} {
		checkKnownAt(t, s, h, want)
	}
}

func TestNothingIsKnownOfNoCut(t *testing.T) {
	for _, s := range []string{"", "x", "p", "!", "&", "&P", "|T", "C", "F", "FA", "F1", "Fab", "PP", "&NF", "&NX", "|Tx", "T ", " T", "T\n", "\x00", "\xff", "Fä", "&N" + strings.Repeat("!", 38) + "T", strings.Repeat("!", 40) + "T", strings.Repeat("!", 100000)} {
		for _, h := range []impl.Shadow{printAt("a"), callAt("a", "a"), {}} {
			checkKnownAt(t, s, h, "")
			checkKnownFrom(t, "a:PCa", "a", s, h, "")
		}
		checkCounts(t, "a:PCa", s, -1, -1, -1)
		checkCounts(t, "a:", s, -1, -1, -1)
	}
	long := strings.Repeat("!", 39)
	checkKnownAt(t, long+"T", printAt("a"), "no")
	checkKnownAt(t, long[1:]+"Fa", printAt("a"), "yes")
	checkKnownAt(t, long[1:]+"Fb", printAt("a"), "open")
	checkKnownAt(t, long+"Fa", printAt("a"), "")
}

func TestShadowsThatAreNotValid(t *testing.T) {
	list := []impl.Shadow{{}, {Within: "a"}, {Name: "a", Within: "a"}, {Kind: "print", Name: "a", Within: "a"}, {Kind: "call", Within: "a"}, {Kind: "call", Name: "a"}, {Kind: "print"}}
	for _, name := range append([]string{letters, strings.Repeat("a", 20), strings.Repeat("a", 21)}, wrongNames...) {
		list = append(list, printAt(name), callAt("a", name), callAt(name, "a"))
		if name != "" {
			list = append(list, impl.Shadow{Kind: "print", Name: name, Within: "a"})
		}
	}
	for _, kind := range []string{"Call", "Print", "call ", " print", "calls", "C", "P", "x", "call\x00", "before"} {
		list = append(list, impl.Shadow{Kind: kind, Within: "a"}, impl.Shadow{Kind: kind, Name: "a", Within: "a"})
	}
	for _, h := range list {
		for _, s := range []string{"T", "N", "P", "Ca", "Wa", "Fa", "Fb", "!T", "!Fa", "&NFa", "|TFa", "x", ""} {
			checkKnownAt(t, s, h, "")
			checkKnownFrom(t, "a:PCaCb;b:", "a", s, h, "")
		}
	}
}

func TestCountKnown(t *testing.T) {
	w := "a:CbCc;b:Cc;c:P"
	for _, c := range []struct {
		w             string
		s             string
		yes, no, open int
	}{
		{w, "T", 4, 0, 0}, {w, "N", 0, 4, 0}, {w, "P", 1, 3, 0}, {w, "Cb", 1, 3, 0}, {w, "Cc", 2, 2, 0}, {w, "Wa", 2, 2, 0}, {w, "Wc", 1, 3, 0},
		{w, "Fa", 2, 0, 2}, {w, "Fb", 1, 0, 3}, {w, "!Fb", 0, 1, 3}, {w, "Fz", 0, 0, 4}, {w, "Cz", 0, 4, 0}, {w, "Wz", 0, 4, 0}, {w, "!Wz", 4, 0, 0},
		{w, "&PFb", 0, 3, 1}, {w, "|CcFb", 2, 0, 2}, {w, "|!PFa", 3, 0, 1}, {w, "&Wa!Fa", 0, 4, 0}, {w, "&Fa!Wb", 2, 1, 1},
		{"a:", "T", 0, 0, 0}, {"a:", "Fz", 0, 0, 0}, {"a:+1?[][-1]", "N", 0, 0, 0},
		{"a:+1CbP;b:?[P-1Cb][]", "&PFb", 1, 2, 1},
		{"a:?[P?[P][Ca]][?[][P]]", "P", 3, 1, 0}, {"a:?[P?[P][Ca]][?[][P]]", "Fb", 0, 0, 4},
		{"a:" + strings.Repeat("P", 398), "P", 398, 0, 0}, {"a:" + strings.Repeat("P", 398), "Fb", 0, 0, 398},
	} {
		checkCounts(t, c.w, c.s, c.yes, c.no, c.open)
	}
}

func TestActiveProcedures(t *testing.T) {
	diamond := "a:CbCc;b:Cd;c:Cd;d:Ce;e:P"
	for _, c := range [][5]string{
		{"a:CbCc;b:Cc;c:P", "a", "c", "ac", "abc"},
		{"a:CbCc;b:Cc;c:P", "b", "c", "bc", "bc"},
		{"a:CbCc;b:Cc;c:P", "a", "b", "ab", "ab"},
		{"a:Cb;b:Cc;c:P", "a", "c", "abc", "abc"},
		// More than one way, some procedures of which are on each of them.
		{diamond, "a", "d", "ad", "abcd"},
		{diamond, "a", "e", "ade", "abcde"},
		{diamond, "b", "e", "bde", "bde"},
		{"a:?[Cb][Cc];b:?[][?[Cd][]];c:?[P][Cd];d:", "a", "d", "ad", "abcd"},
		{"a:CbCc;b:Cd;c:Cd;d:CeCf;e:Cg;f:Cg;g:", "a", "g", "adg", "abcdefg"},
		{"a:CbCg;b:Cc;c:CdCg;d:Cg;g:", "a", "g", "ag", "abcdg"},
		{"a:Cz;m:Cb;b:;z:CmCb", "a", "b", "", ""},
		{"a:Cz;b:;m:Cb;z:CmCb", "a", "b", "abz", "abmz"},
		// Procedures beside the way, or in front of it.
		{"a:CbCc;b:;c:Cd;d:", "a", "b", "ab", "ab"},
		{"a:CbCc;b:;c:Cd;d:", "c", "d", "cd", "cd"},
		{"a:Cb;b:CcCd;c:Cc;d:", "a", "d", "abd", "abd"},
	} {
		checkActive(t, c[0], c[1], c[2], c[3], c[4])
	}
}

func TestActiveProceduresThatReachThemselves(t *testing.T) {
	for _, c := range [][5]string{
		// Within that is start: what it reaches and what reaches it again may be active.
		{"a:", "a", "a", "a", "a"},
		{"a:Ca", "a", "a", "a", "a"},
		{"a:Cb;b:", "a", "a", "a", "a"},
		{"a:Cb;b:Cb", "a", "a", "a", "a"},
		{"a:Cb;b:CaP", "a", "a", "a", "ab"},
		{"a:Cb;b:CaP", "b", "b", "b", "ab"},
		{"a:Cb;b:CaP", "a", "b", "ab", "ab"},
		{"a:Cb;b:CaP", "b", "a", "ab", "ab"},
		{"a:CbCd;b:Cc;c:CaCe;d:Cc;e:", "a", "a", "a", "abcd"},
		{"a:CbCd;b:Cc;c:CaCe;d:Cc;e:", "a", "e", "ace", "abcde"},
		{"a:CbCd;b:Cc;c:CaCe;d:Cc;e:", "b", "d", "abcd", "abcd"},
		{"a:CbCd;b:Cc;c:CaCe;d:Cc;e:", "d", "c", "cd", "abcd"},
		// Loops on the way are no way around what is on it.
		{"a:Cb;b:CaCc;c:CbCcCd;d:", "a", "d", "abcd", "abcd"},
		{"a:Cb;b:Cb", "a", "b", "ab", "ab"},
		// A loop behind within that comes back to it.
		{"a:Cb;b:Cc;c:Cd;d:Cb", "a", "b", "ab", "abcd"},
		{"a:Cb;b:Cc;c:Cd;d:Cb", "a", "c", "abc", "abcd"},
		{"a:CbCc;b:Cd;c:Cd;d:Cb", "a", "b", "ab", "abcd"},
		{"a:CbCc;b:Cd;c:Cd;d:Cb", "a", "d", "ad", "abcd"},
	} {
		checkActive(t, c[0], c[1], c[2], c[3], c[4])
	}
}

func TestNoActiveProcedures(t *testing.T) {
	w := "a:CbCe;b:Cc;c:P;d:Ca;e:"
	// Procedures that are not reached from start.
	for _, pair := range []string{"ba", "ca", "cb", "ad", "bd", "be", "cd", "ea", "eb", "ec", "ed", "ce"} {
		checkActive(t, w, pair[:1], pair[1:], "", "")
		checkKnownFrom(t, w, pair[:1], "T", printAt(pair[1:]), "")
		checkKnownFrom(t, w, pair[:1], "F"+pair[:1], callAt("c", pair[1:]), "")
	}
	checkActive(t, "a:Cb;b:;c:Cc;d:Cc", "a", "c", "", "")
	checkActive(t, "a:Cb;b:;c:Cc;d:Cc", "d", "c", "cd", "cd")
	for _, name := range append([]string{"f", "z", "Ca"}, wrongNames...) {
		for _, known := range []string{"a", "c", "e"} {
			checkActive(t, w, name, known, "", "")
			checkActive(t, w, known, name, "", "")
			checkKnownFrom(t, w, name, "T", printAt(known), "")
			checkKnownFrom(t, w, known, "T", printAt(name), "")
		}
		checkActive(t, w, name, name, "", "")
		checkKnownFrom(t, w, name, "T", printAt(name), "")
	}
}

func TestActiveOfTwentySixProcedures(t *testing.T) {
	var ring, ladder, all []string
	for i, name := range letters {
		next, after := letters[(i+1)%26], letters[(i+2)%26]
		ring = append(ring, string(name)+":C"+string(next))
		ladder = append(ladder, string(name)+":C"+string(next)+"C"+string(after))
		all = append(all, string(name)+":CaCmCz")
	}
	chain := append(slices.Clone(ring[:25]), "z:")
	backwards := []string{"a:"}
	for i := range 25 {
		backwards = append(backwards, letters[i+1:i+2]+":C"+letters[i:i+1])
	}
	for _, c := range []struct {
		list          []string
		start, within string
		must, may     string
	}{
		{chain, "a", "z", letters, letters}, {chain, "f", "k", "fghijk", "fghijk"}, {chain, "m", "m", "m", "m"}, {chain, "b", "a", "", ""},
		{backwards, "z", "a", letters, letters}, {backwards, "k", "f", "fghijk", "fghijk"}, {backwards, "a", "z", "", ""},
		{ring, "a", "z", letters, letters}, {ring, "k", "c", "abcklmnopqrstuvwxyz", letters}, {ring, "m", "m", "m", letters}, {ring, "b", "a", letters, letters},
		{ladder, "a", "z", "az", letters}, {ladder, "a", "b", "ab", letters}, {ladder, "b", "a", "ab", letters}, {ladder, "q", "q", "q", letters},
		{all, "a", "z", "az", "amz"}, {all, "b", "m", "bm", "abmz"}, {all, "c", "c", "c", "c"}, {all, "m", "m", "m", "amz"}, {all, "a", "b", "", ""},
	} {
		checkActive(t, strings.Join(c.list, ";"), c.start, c.within, c.must, c.may)
	}
}

func TestKnownFrom(t *testing.T) {
	w := "a:CbCc;b:Cc;c:P"
	diamond := "a:CbCc;b:Cd;c:Cd;d:P;z:Ca"
	loop := "a:?[-1Cb][P];b:CaCc;c:PCd;d:Ce;e:Cd"
	for _, c := range []struct {
		w, start string
		h        impl.Shadow
		known    map[string]string
	}{
		{w, "a", printAt("c"), map[string]string{"Fa": "yes", "Fb": "open", "Fc": "yes", "Fz": "no", "!Fa": "no", "!Fb": "open", "!Fz": "yes", "&PFa": "yes", "&FaFb": "open", "&FbFz": "no", "|FbFa": "yes", "|FbFz": "open", "P": "yes", "Cc": "no", "Wc": "yes", "Wb": "no", "T": "yes", "N": "no"}},
		{w, "b", printAt("c"), map[string]string{"Fa": "no", "Fb": "yes", "Fc": "yes", "|FaFb": "yes", "&FaFb": "no"}},
		{w, "c", printAt("c"), map[string]string{"Fa": "no", "Fb": "no", "Fc": "yes", "!&FcFa": "yes"}},
		{w, "a", callAt("c", "b"), map[string]string{"Fa": "yes", "Fb": "yes", "Fc": "no", "Cc": "yes", "Cb": "no", "P": "no", "&CcFa": "yes"}},
		{w, "a", callAt("c", "a"), map[string]string{"Fa": "yes", "Fb": "no", "Fc": "no", "&CcFb": "no", "&Cc!Fb": "yes"}},
		{diamond, "a", printAt("d"), map[string]string{"Fa": "yes", "Fb": "open", "Fc": "open", "Fd": "yes", "Fz": "no", "|FbFc": "open", "&FbFc": "open"}},
		{diamond, "z", printAt("d"), map[string]string{"Fa": "yes", "Fb": "open", "Fz": "yes", "&FaFz": "yes"}},
		{diamond, "b", printAt("d"), map[string]string{"Fa": "no", "Fb": "yes", "Fc": "no", "Fz": "no"}},
		{diamond, "z", callAt("a", "z"), map[string]string{"Fa": "no", "Fb": "no", "Fd": "no", "Fz": "yes"}},
		// Procedures that reach themselves may be active where they are called.
		{loop, "a", callAt("b", "a"), map[string]string{"Fa": "yes", "Fb": "open", "Fc": "no"}},
		{loop, "a", printAt("a"), map[string]string{"Fa": "yes", "Fb": "open", "Fc": "no"}},
		{loop, "a", callAt("a", "b"), map[string]string{"Fa": "yes", "Fb": "yes", "Fc": "no"}},
		{loop, "b", callAt("c", "b"), map[string]string{"Fa": "open", "Fb": "yes", "Fc": "no"}},
		{loop, "b", callAt("b", "a"), map[string]string{"Fa": "yes", "Fb": "yes"}},
		{loop, "a", callAt("e", "d"), map[string]string{"Fa": "yes", "Fb": "yes", "Fc": "yes", "Fd": "yes", "Fe": "open"}},
		{loop, "c", callAt("e", "d"), map[string]string{"Fa": "no", "Fb": "no", "Fc": "yes", "Fd": "yes", "Fe": "open"}},
		{loop, "e", callAt("e", "d"), map[string]string{"Fa": "no", "Fc": "no", "Fd": "yes", "Fe": "yes"}},
		// Shadows that do not stand in the program.
		{w, "a", printAt("a"), map[string]string{"P": "yes", "Fb": "no", "Ca": "no"}},
		{w, "a", callAt("z", "c"), map[string]string{"Cz": "yes", "Cc": "no", "Fb": "open", "Fz": "no", "Wc": "yes"}},
	} {
		for s, want := range c.known {
			checkKnownFrom(t, c.w, c.start, s, c.h, want)
		}
	}
}

// shadowsIn finds the shadows of a program in its text alone.
func shadowsIn(w string) string {
	var points []impl.JoinPoint
	for _, part := range strings.Split(w, ";") {
		for i, sign := range part {
			switch sign {
			case 'P':
				points = append(points, printIn(part[:1]))
			case 'C':
				points = append(points, callIn(part[i+1:i+2], part[:1]))
			}
		}
	}
	return pointsText(points)
}

// knownOf tells from the text of a cut alone what is known of it.
func knownOf(s string, h impl.Shadow, must string, may string) string {
	middle := max(0, cutEnd(s, 1))
	switch s[0] {
	case '!':
		return map[string]string{"yes": "no", "no": "yes", "open": "open"}[knownOf(s[1:], h, must, may)]
	case '&', '|':
		parts := []string{knownOf(s[1:middle], h, must, may), knownOf(s[middle:], h, must, may)}
		strong, weak := "no", "yes"
		if s[0] == '|' {
			strong, weak = "yes", "no"
		}
		switch {
		case slices.Contains(parts, strong):
			return strong
		case parts[0] == weak && parts[1] == weak:
			return weak
		}
		return "open"
	case 'F':
		if strings.Contains(may, s[1:]) && !strings.Contains(must, s[1:]) {
			return "open"
		}
		return map[bool]string{true: "yes", false: "no"}[strings.Contains(must, s[1:])]
	}
	return map[bool]string{true: "yes", false: "no"}[isIn(s, pointOf(h, h.Within))]
}

// addLetter puts a letter into letters in ascending order, if it is not there.
func addLetter(set string, letter string) string {
	i := 0
	for i < len(set) && set[i:i+1] < letter {
		i++
	}
	return strings.TrimSuffix(set[:i], letter) + letter + strings.TrimPrefix(set[i:], letter)
}

// activeSets walks all ways of calls from start and returns, for each procedure, the sets of those that are on a way to it.
func activeSets(names string, bodies []string, start string) map[string][]string {
	type place struct{ at, set string }
	work, seen, sets := []place{{start, start}}, map[place]bool{}, map[string][]string{}
	for len(work) > 0 {
		p := work[0]
		work = work[1:]
		if seen[p] {
			continue
		}
		seen[p] = true
		sets[p.at] = append(sets[p.at], p.set)
		for _, next := range calledIn(bodies[strings.Index(names, p.at)]) {
			work = append(work, place{string(next), addLetter(p.set, string(next))})
		}
	}
	return sets
}

// mustAndMay returns the letters that all sets have, and those that some of them have.
func mustAndMay(sets []string) (string, string) {
	must, may := "", ""
	for _, name := range letters {
		n := 0
		for _, set := range sets {
			n += strings.Count(set, string(name))
		}
		if n > 0 {
			may += string(name)
		}
		if n > 0 && n == len(sets) {
			must += string(name)
		}
	}
	return must, may
}

// eachSmallProgram visits random programs of at most eight procedures.
func eachSmallProgram(r *rand.Rand, times int, visit func(names string, bodies []string, w string)) {
	for range times {
		names, bodies := randomProgram(r)
		if len(names) <= 8 {
			visit(names, bodies, programText(names, bodies))
		}
	}
}

func TestShadowsInTexts(t *testing.T) {
	eachSmallProgram(rand.New(rand.NewSource(15)), 2000, func(names string, bodies []string, w string) {
		checkShadows(t, w, shadowsIn(w))
		prints, calls := strings.Count(w, "P"), strings.Count(w, "C")
		checkCounts(t, w, "P", prints, calls, 0)
		checkCounts(t, w, "T", prints+calls, 0, 0)
		checkCounts(t, w, "F_", -1, -1, -1)
	})
}

func TestActiveOnAllWays(t *testing.T) {
	found := map[string]int{}
	eachSmallProgram(rand.New(rand.NewSource(16)), 1500, func(names string, bodies []string, w string) {
		for _, letter := range names {
			start := string(letter)
			sets := activeSets(names, bodies, start)
			for _, name := range names + "_" {
				within := string(name)
				must, may := mustAndMay(sets[within])
				checkActive(t, w, start, within, must, may)
				switch {
				case may == "":
					found["no way"]++
				case len(must) > 2:
					found["more on each way"]++
				}
				if must != may {
					found["open"]++
				}
			}
		}
	})
	if found["no way"] < 1000 || found["more on each way"] < 1000 || found["open"] < 1000 {
		t.Errorf("too few of some ways: %v", found)
	}
}

func TestKnownOfTexts(t *testing.T) {
	cuts := 0
	w, active := "a:PCaCb;b:CbCa;c:CaCbP", map[string][2]string{"a": {"ac", "abc"}, "b": {"bc", "abc"}, "c": {"c", "c"}}
	shadows := []impl.Shadow{printAt("a"), printAt("b"), callAt("a", "a"), callAt("b", "a"), callAt("a", "c")}
	eachShortText("PNTCWF!&|abz", 4, func(s string) {
		for _, h := range shadows {
			at, from := "", ""
			if isCut(s) {
				cuts++
				at = knownOf(s, h, h.Within, letters)
				from = knownOf(s, h, active[h.Within][0], active[h.Within][1])
			}
			checkKnownAt(t, s, h, at)
			checkKnownFrom(t, w, "c", s, h, from)
		}
	})
	if cuts < 1000 {
		t.Errorf("just %d cuts", cuts)
	}
}

// TestArbitraryBytesWhereKnown puts each byte into each place of a cut, and in place of each name.
func TestArbitraryBytesWhereKnown(t *testing.T) {
	w, cut := "a:CbP;b:PCa", "&|PFb!&Fz!Cb"
	for b := range 256 {
		sign := string([]byte{byte(b)})
		for i := 0; i <= len(cut); i++ {
			for _, s := range []string{cut[:i] + sign + cut[i:], cut[:i] + sign + cut[min(i+1, len(cut)):]} {
				want, from := "", ""
				if isCut(s) {
					want, from = knownOf(s, printAt("a"), "a", letters), knownOf(s, printAt("a"), "a", "ab")
				}
				checkKnownAt(t, s, printAt("a"), want)
				checkKnownFrom(t, w, "a", s, printAt("a"), from)
			}
		}
		isLetter, isProc := strings.Contains(letters, sign), strings.Contains("ab", sign)
		checkKnownAt(t, "T", printAt(sign), map[bool]string{true: "yes"}[isLetter])
		checkKnownAt(t, "T", callAt(sign, "a"), map[bool]string{true: "yes"}[isLetter])
		checkKnownFrom(t, w, sign, "T", printAt("a"), map[bool]string{true: "yes"}[isProc])
		checkKnownFrom(t, w, "a", "T", printAt(sign), map[bool]string{true: "yes"}[isProc])
		checkKnownFrom(t, w, "a", "T", callAt(sign, "b"), map[bool]string{true: "yes"}[isLetter])
		if !isProc {
			checkActive(t, w, sign, "a", "", "")
			checkActive(t, w, "a", sign, "", "")
		}
	}
}

// TestKnownOnAllWays compares what is known with the cut at the sets of procedures that are active on all ways: what is known is so at all of them, and what is open of F is not.
func TestKnownOnAllWays(t *testing.T) {
	r := rand.New(rand.NewSource(17))
	found := map[string]int{}
	eachSmallProgram(r, 1500, func(names string, bodies []string, w string) {
		k := r.Intn(len(names))
		start := names[k : k+1]
		sets := activeSets(names, bodies, start)
		for _, h := range impl.ShadowsOf(w) {
			s := randomCut(r, names+"q", 2)
			must, may := mustAndMay(sets[h.Within])
			if may == "" {
				checkKnownFrom(t, w, start, s, h, "")
				continue
			}
			known := impl.KnownFrom(w, start, s, h)
			found[known]++
			checkKnownFrom(t, w, start, s, h, knownOf(s, h, must, may))
			checkKnownAt(t, s, h, knownOf(s, h, h.Within, letters))
			matches := map[bool]int{}
			for _, set := range sets[h.Within] {
				matches[isIn(s, pointOf(h, set+h.Within))]++
			}
			if known == "yes" && matches[false] > 0 || known == "no" && matches[true] > 0 || known == "open" && len(s) == 2 && len(matches) < 2 {
				t.Fatalf("%q, %q, %q, %+v: %q with matches %v", w, start, s, h, known, matches)
			}
		}
	})
	if found["yes"] < 500 || found["no"] < 500 || found["open"] < 100 {
		t.Errorf("too few of some kind: %v", found)
	}
}

// checkPoint checks what is known at the shadow of a join point of a run, and returns what is known in runs that begin with start.
func checkPoint(t *testing.T, w string, start string, s string, j impl.JoinPoint) string {
	t.Helper()
	h := impl.Shadow{Kind: j.Kind, Name: j.Name, Within: j.Stack[len(j.Stack)-1:]}
	if !slices.Contains(impl.ShadowsOf(w), h) {
		t.Fatalf("%q: no shadow of %+v", w, j)
	}
	must, may := impl.MustBeActive(w, start, h.Within), impl.MayBeActive(w, start, h.Within)
	if strings.Trim(must, j.Stack) != "" || strings.Trim(j.Stack, may) != "" {
		t.Fatalf("%q, %q: %q must and %q may be active at %+v", w, start, must, may, j)
	}
	at, from := impl.KnownAt(s, h), impl.KnownFrom(w, start, s, h)
	truth := map[bool]string{true: "yes", false: "no"}[impl.Matches(s, j)]
	if at != "open" && at != truth || from != "open" && from != truth || at != "open" && from != at {
		t.Fatalf("%q, %q: %q is known as %q, and as %q from start, but has %+v: %q", w, start, s, at, from, j, truth)
	}
	return from
}

// TestKnownIsSoAtAllJoinPoints runs programs with and without advice.
func TestKnownIsSoAtAllJoinPoints(t *testing.T) {
	r := rand.New(rand.NewSource(18))
	found := map[string]int{}
	eachWeaving(r, 2000, func(names string, bodies []string, list []impl.Aspect, name string, value int) {
		w, s := programText(names, bodies), randomCut(r, names+"q", 2)
		points, _ := impl.JoinPointsOf(w, name, value)
		woven, _ := impl.WovenPoints(w, list, name, value)
		for _, all := range [][]impl.JoinPoint{points, woven} {
			for _, j := range all[:min(len(all), 30)] {
				found[checkPoint(t, w, name, s, j)]++
			}
		}
	})
	if found["yes"] < 1000 || found["no"] < 1000 || found["open"] < 100 {
		t.Errorf("too few of some kind: %v", found)
	}
}

// TestKnownOfProceduresNamedOtherwise names a procedure otherwise, also in the cut and the shadow.
func TestKnownOfProceduresNamedOtherwise(t *testing.T) {
	r := rand.New(rand.NewSource(19))
	eachSmallProgram(r, 500, func(names string, bodies []string, w string) {
		name, start := names[:1], names[len(names)-1:]
		renamed, ok := impl.RenameProc(w, name, "q")
		if !ok {
			return
		}
		other := func(s string) string { return strings.ReplaceAll(s, name, "q") }
		for _, h := range impl.ShadowsOf(w) {
			s := randomCut(r, names, 2)
			moved := impl.Shadow{Kind: h.Kind, Name: other(h.Name), Within: other(h.Within)}
			checkKnownAt(t, other(s), moved, impl.KnownAt(s, h))
			checkKnownFrom(t, renamed, other(start), other(s), moved, impl.KnownFrom(w, start, s, h))
		}
	})
}

func TestShadowsShareNoMemory(t *testing.T) {
	w := "a:CbPCc;b:Cc;c:P"
	first, second := impl.ShadowsOf(w), impl.ShadowsOf(w)
	for i := range first {
		first[i] = impl.Shadow{}
	}
	_ = append(first[:0], printAt("z"))
	_ = append(first, printAt("z"))
	want := "call b in a, print in a, call c in a, call c in b, print in c"
	if got := shadowsText(second); got != want {
		t.Errorf("%q after another result was changed", got)
	}
	checkShadows(t, w, want)
}
