package tests

import (
	"math"
	"math/rand"
	"regexp"
	"slices"
	"strconv"
	"strings"
	"sync"
	"testing"

	"loop.example/wovenprograms/impl"
)

// checkScript runs a script, with and without a newline at its end.
func checkScript(t *testing.T, lines []string, outputs []string) {
	t.Helper()
	script, want := strings.Join(lines, "\n"), strings.Join(append(outputs, ""), "\n")
	for _, text := range []string{script, script + "\n"} {
		if got := impl.RunScript(text); got != want {
			t.Errorf("RunScript(%q) = %q, want %q", text, got, want)
		}
	}
}

// checkDesk runs a script of lines, each with its output behind it.
func checkDesk(t *testing.T, linesAndOutputs ...string) {
	t.Helper()
	var lines, outputs []string
	for i := 0; i < len(linesAndOutputs); i += 2 {
		lines, outputs = append(lines, linesAndOutputs[i]), append(outputs, linesAndOutputs[i+1])
	}
	checkScript(t, lines, outputs)
}

// askDesk are the lines that tell all that a desk has.
var askDesk = []string{"program", "aspects", "cut"}

// checkUnchanged checks that a line has this output at some desk, and leaves it as it was.
func checkUnchanged(t *testing.T, desk []string, line string, output string) {
	t.Helper()
	before := strings.Join(desk, "\n") + "\n"
	ask := strings.Join(askDesk, "\n")
	made, has := impl.RunScript(before), impl.RunScript(before + ask)[len(impl.RunScript(before)):]
	if got, want := impl.RunScript(before+line+"\n"+ask), made+output+"\n"+has; got != want {
		t.Errorf("RunScript(%q, and %q) = %q, want %q", desk, line, got, want)
	}
}

// someDesks are lines that make desks: the first one, and others with a program, aspects and a cut.
var someDesks = [][]string{
	{},
	{"program a:+1CbP;b:?[P-1Cb][]", "aspect around Cb PKP", "aspect before P ?[][P]", "cut &PFb"},
	{"program a:CbCc;b:Cc;c:P", "aspect before &PFb +1", "aspect after T ", "cut |||||CaCbCcCdCeCf"},
	{"program a:CbCb;b:CaCz;z:P", "aspect around T K?[K][]", "aspect around P ", "aspect after T P", "aspect before Fz *2", "aspect before Wq P", "cut !!Fq"},
}

func TestFormatShadow(t *testing.T) {
	for h, want := range map[impl.Shadow]string{
		printAt("a"): "print in a", printAt("z"): "print in z", callAt("b", "a"): "call b in a", callAt("a", "a"): "call a in a", callAt("z", "m"): "call z in m",
		{}: "", {Kind: "print"}: "", {Kind: "call"}: "", {Kind: "call", Name: "a"}: "", {Kind: "call", Within: "a"}: "", {Within: "a"}: "", {Name: "b", Within: "a"}: "",
		{Kind: "print", Name: "b", Within: "a"}: "", {Kind: "Print", Within: "a"}: "", {Kind: "print ", Within: "a"}: "", {Kind: "calls", Name: "b", Within: "a"}: "",
		printAt("ab"): "", callAt("b", "aa"): "", callAt("ab", "a"): "", callAt(" ", "a"): "",
	} {
		if got := impl.FormatShadow(h); got != want {
			t.Errorf("FormatShadow(%+v) = %q, want %q", h, got, want)
		}
	}
	for _, name := range wrongNames {
		if got := impl.FormatShadow(printAt(name)) + impl.FormatShadow(callAt("a", name)) + impl.FormatShadow(callAt(name, "a")); got != "" {
			t.Errorf("FormatShadow with the name %q = %q, want none", name, got)
		}
	}
}

func TestFormatCopy(t *testing.T) {
	for c, want := range map[impl.Copy]string{
		{Name: "d", Proc: "c", Active: "b"}: "d of c with [b]", {Name: "a", Proc: "a"}: "a of a with []", {Name: "z", Proc: "m", Active: letters}: "z of m with [" + letters + "]",
		{}: " of  with []", {Name: "A", Proc: "bc", Active: "]\x00ä"}: "A of bc with []\x00ä]",
	} {
		if got := impl.FormatCopy(c); got != want {
			t.Errorf("FormatCopy(%+v) = %q, want %q", c, got, want)
		}
	}
}

func TestFormatNumbers(t *testing.T) {
	for want, list := range map[string][]int{
		"-": nil, "0": {0}, "1 0 -3": {1, 0, -3}, "-1": {-1}, "0 0": {0, 0}, "10 200 3000": {10, 200, 3000},
		"9223372036854775807 -9223372036854775808": {math.MaxInt64, math.MinInt64},
	} {
		if got := impl.FormatNumbers(list); got != want {
			t.Errorf("FormatNumbers(%v) = %q, want %q", list, got, want)
		}
	}
	if got := impl.FormatNumbers([]int{}); got != "-" {
		t.Errorf("FormatNumbers of an empty list = %q", got)
	}
	// What is behind the length is no part of it.
	if got := impl.FormatNumbers([]int{1, 2, 3}[:1]); got != "1" {
		t.Errorf("FormatNumbers of one of three = %q", got)
	}
}

// chapterScript is the example of the chapter, each line with its output behind it.
var chapterScript = []string{
	"program a:+1CbP;b:?[P-1Cb][]", "a:+1CbP;b:?[P-1Cb][]", "size", "7", "reach a", "b", "run a 1", "0: 2 1 0 done 12", "tree a 1", "a(b(b(b)))", "calls a 1", "0 3",
	"aspect around Cb PKP", "observer", "aspect before P ?[][P]", "observer", "woven a 1", "0: 2 2 1 1 0 0 0 0 0 0 done 22", "done a 1", "3 3", "changes a 1", "true",
	"observers", "true", "quiet", "false", "swap 0", "observer before P ?[][P]\nobserver around Cb PKP",
	"cut &PFb", "(print and active b)", "shadows", "call b in a no\nprint in a open\nprint in b yes\ncall b in b no", "known", "1 2 1", "matches a 1", "print in ab\nprint in abb",
	"opposite", "|!P!Fb", "show", "(not print or not active b)", "same |!P!Fb", "same", "never", "false", "active a b", "ab ab",
	"inline", "a:+1PCbP?[][P]P;b:?[?[][P]P-1PCbP][]", "run a 1", "0: 2 2 1 1 0 0 0 0 0 0 done 22",
	"program a:CbCc;b:Cc;c:P", "a:CbCc;b:Cc;c:P", "aspect before &PFb +1", "changer", "inline", "no",
	"copies a", "a of a with []\nb of b with [b]\nc of c with []\nd of c with [b]", "woven a 0", "1: 1 1 done 6", "copy a", "a:CbCc;b:Cd;c:P;d:+1P", "run a 0", "1: 1 1 done 6", "aspects", "-",
	"rename a z", "b:Cd;c:P;d:+1P;z:CbCc", "body b P", "b:P;c:P;d:+1P;z:CbCc", "foo", "what",
}

func TestScriptOfTheChapter(t *testing.T) {
	for n := 2; n <= len(chapterScript); n += 2 {
		checkDesk(t, chapterScript[:n]...)
	}
	// Nothing is kept from call to call.
	checkDesk(t, "program", "a:", "aspects", "-", "cut", "T")
}

func TestFirstDesk(t *testing.T) {
	for line, output := range map[string]string{
		"program": "a:", "size": "0", "reach a": "-", "aspects": "-", "drop": "ok", "around": "-", "observers": "true", "quiet": "true", "inline": "a:", "inline a": "a:", "copies a": "a of a with []", "copy a": "a:",
		"cut": "T", "show": "always", "simplify": "T", "never": "false", "always": "true", "same T": "same", "same N": "print in a", "shadows": "-", "known": "0 0 0", "active a a": "a a",
		"run a 0": "0: done 0", "woven a 0": "0: done 0", "points a 0": "-", "matches a 0": "-", "tree a 0": "a", "calls a 0": "0", "done a 0": "-", "changes a 0": "false",
	} {
		checkDesk(t, line, output)
		checkUnchanged(t, nil, line, output)
	}
	checkDesk(t, "opposite", "N", "show", "never", "never", "true")
	for _, line := range []string{"swap 0", "reach b", "inline b", "copies b", "copy b", "active a b", "active b a", "run b 0", "woven b 0", "points b 0", "matches b 0", "tree b 0", "calls b 0", "done b 0", "changes b 0"} {
		checkUnchanged(t, nil, line, "no")
	}
}

func TestProgramsAtTheDesk(t *testing.T) {
	checkDesk(t, "program b:Cb", "b:Cb", "program", "b:Cb", "size", "1", "reach b", "b", "reach a", "no", "program c:;d:", "c:;d:", "size", "0", "reach c", "-", "reach d", "-", "reach b", "no", "program", "c:;d:")
	checkDesk(t, "program a:CbP;b:?[Cc][+1];c:;d:Ca", "a:CbP;b:?[Cc][+1];c:;d:Ca", "size", "6", "reach a", "bc", "reach b", "c", "reach c", "-", "reach d", "abc")
	// Bodies, also empty ones, and of new procedures.
	checkDesk(t, "body a P", "a:P", "body a ", "a:", "body b ", "a:;b:", "body a Cb", "a:Cb;b:", "body b ?[Ca][]", "a:Cb;b:?[Ca][]", "body z Cz", "a:Cb;b:?[Ca][];z:Cz", "body c ", "a:Cb;b:?[Ca][];c:;z:Cz", "body b ", "a:Cb;b:;c:;z:Cz", "size", "2", "reach a", "b")
	checkDesk(t, "rename a c", "c:", "rename c c", "c:", "rename a c", "no", "program a:CbCa;b:P", "a:CbCa;b:P", "rename a z", "b:P;z:CbCz", "rename b a", "a:P;z:CaCz", "rename z a", "no", "rename a z", "no", "reach z", "az")
	longest := "a:" + strings.Repeat("P", 398)
	checkDesk(t, "program "+longest, longest, "size", "398", "program "+longest+"P", "no", "body a "+longest[2:], longest, "body a P"+longest[2:], "no", "body b ", "no", "size", "398", "rename a b", "b"+longest[1:])
	for _, desk := range someDesks {
		for _, w := range []string{"", " ", "a", "a:x", "a: ", " a:", "a: P", "a:P ", "a:;", "a:;a:", "b:;a:", "A:", "a:Cb", "a:K", "ab:", "a:\x00", "a:\xff", "a:\r", "a:P;", "a:;b :", "program a:"} {
			checkUnchanged(t, desk, "program "+w, "no")
		}
		for _, rest := range []string{"", " ", "a", "b", "  ", " a", " a P", "a  ", "a  P", "a P ", "a P P", "a x", "a K", "a Cy", "a ?[P]", "A P", "ab P", "aa ", "\xff P", "a\tP", "a:P", "a \xff", "P a", "a:P a"} {
			checkUnchanged(t, desk, "body "+rest, "no")
		}
		for _, rest := range []string{"", " ", "a", "a ", " a", " b", "a  y", " a y", "a y ", "a y y", "a yy", "ab y", "aa y", "a A", "A a", "y x", "y y", "a \x00", "a\ty", "a \xff", "a:y", "a 0"} {
			checkUnchanged(t, desk, "rename "+rest, "no")
		}
		for _, name := range append(wrongNames, "y", " a", "a a", "aa", "a:") {
			checkUnchanged(t, desk, "reach "+name, "no")
		}
	}
	for _, desk := range someDesks[1:] {
		checkUnchanged(t, desk, "rename a b", "no")
	}
}

func TestAspectsAtTheDesk(t *testing.T) {
	checkDesk(t, "aspect before P P", "observer", "aspect around P ", "keeper", "aspect after !Fz ", "observer", "aspect around &PWa K+1K", "repeater", "aspect before T ?[][+0]", "changer",
		"aspects", "observer before P P\nkeeper around P \nobserver after !Fz \nrepeater around &PWa K+1K\nchanger before T ?[][+0]", "aspect before P P", "no", "aspect around P ", "no",
		"around", "observer around P PK\nkeeper around P \nobserver around !Fz K\nrepeater around &PWa K+1K\nchanger around T ?[][+0]K", "drop", "ok", "aspects", "-", "around", "-", "aspect after Cb P", "observer", "aspects", "observer after Cb P", "drop", "ok", "drop", "ok")
	// The same one may be there twice.
	checkDesk(t, "aspect after T P", "observer", "aspect after T P", "observer", "aspects", "observer after T P\nobserver after T P", "woven a 0", "0: done 0", "body a P", "a:P", "woven a 0", "0: 0 0 0 done 3", "done a 0", "1 1")
	five := strings.Split(strings.Repeat("aspect after T P\nobserver\n", 5), "\n")[:10]
	checkDesk(t, append(five, "aspect after T P", "no", "drop", "ok", "aspect after T P", "observer", "aspects", "observer after T P")...)
	// Advice with a body of 60 bytes is none around.
	sixty := strings.Repeat("P", 60)
	checkDesk(t, "aspect before P "+sixty, "observer", "around", "no", "inline", "no", "inline a", "no", "copy a", "no", "copies a", "no", "aspects", "observer before P "+sixty, "body a P", "a:P", "done a 0", "1", "drop", "ok", "aspect around P "+sixty, "keeper", "around", "keeper around P "+sixty)
	checkDesk(t, "observers", "true", "quiet", "true", "aspect before P ", "observer", "quiet", "true", "aspect before Cz P", "observer", "observers", "true", "quiet", "false", "aspect before Cz +0", "changer", "observers", "false", "quiet", "false", "drop", "ok", "quiet", "true")
	for _, desk := range someDesks {
		for _, s := range []string{"", " ", "x", "before", "before P", " before P P", "before  P P", "before P  P", "before P P ", "Before P P", "before p P", "before PP P", "before P K", "around P Ca", "before P x", "around  P", "after\tP P", "before P \xff", "observer before P P", "before P " + sixty + "P", "before " + strings.Repeat("!", 40) + "P P"} {
			checkUnchanged(t, desk, "aspect "+s, "no")
		}
	}
	checkUnchanged(t, someDesks[3], "aspect before P P", "no")
}

func TestPlacesOfAspectsAtTheDesk(t *testing.T) {
	lines := []string{"aspect before Wa P", "observer", "aspect before Wb +1", "changer", "aspect before Cb ", "observer", "program a:CbP;b:P", "a:CbP;b:P"}
	checkDesk(t, append(lines, "swap 0", "changer before Wb +1\nobserver before Wa P\nobserver before Cb ", "aspects", "changer before Wb +1\nobserver before Wa P\nobserver before Cb ", "swap 1", "no", "swap 0", "observer before Wa P\nchanger before Wb +1\nobserver before Cb ", "swap 1", "observer before Wa P\nobserver before Cb \nchanger before Wb +1", "swap 2", "no", "swap -1", "no")...)
	// Whether they may depends on the program.
	checkDesk(t, append(lines, "swap 1", "observer before Wa P\nobserver before Cb \nchanger before Wb +1", "swap 0", "no", "body a P", "a:P;b:P", "swap 0", "observer before Cb \nobserver before Wa P\nchanger before Wb +1")...)
	checkDesk(t, "aspect before P P", "observer", "swap 0", "no", "aspect before P +1", "changer", "swap 0", "changer before P +1\nobserver before P P", "body a P", "a:P", "swap 0", "no", "aspects", "changer before P +1\nobserver before P P")
	for _, desk := range someDesks {
		for _, number := range []string{"", " ", "x", "00", "01", "-0", "+0", " 0", "0 ", "0 0", "-1", "4", "5", "0x0", "0.", "0\t", "\xff", "12345678901234567", "123456789012345678", "18446744073709551616", "a", "a 0", strings.Repeat("0", 17), strings.Repeat("0", 18)} {
			checkUnchanged(t, desk, "swap "+number, "no")
		}
	}
	// Open is not known to be no.
	checkUnchanged(t, []string{"program a:P", "aspect before Fb P", "aspect before P +1"}, "swap 0", "no")
}

func TestWeavingAtTheDesk(t *testing.T) {
	checkDesk(t, "program a:+1Cb;b:+1", "a:+1Cb;b:+1", "aspect around Cb PKP", "observer", "woven a 0", "2: 1 2 done 5", "run a 0", "2: done 3", "inline", "a:+1PCbP;b:+1", "program", "a:+1PCbP;b:+1", "aspects", "-", "run a 0", "2: 1 2 done 5", "woven a 0", "2: 1 2 done 5", "inline", "a:+1PCbP;b:+1")
	// Which procedures are active is known only for runs that begin with a.
	from := []string{"program a:Cb;b:P;c:Cb", "a:Cb;b:P;c:Cb", "aspect before &PFa +1", "changer", "inline", "no", "aspects", "changer before &PFa +1"}
	checkDesk(t, append(from, "inline a", "a:Cb;b:+1P;c:Cb", "aspects", "-", "run a 0", "1: 1 done 3")...)
	checkDesk(t, append(from, "inline c", "a:Cb;b:P;c:Cb", "aspects", "-")...)
	checkDesk(t, append(from, "copy c", "a:Cb;b:P", "aspects", "-", "program", "a:Cb;b:P", "copies c", "no", "copies a", "a of a with []\nb of b with []")...)
	checkDesk(t, append(from, "copies a", "a of a with [a]\nb of b with [a]", "copies c", "a of c with []\nb of b with []", "copies b", "a of b with []", "program", "a:Cb;b:P;c:Cb", "copy a", "a:Cb;b:+1P", "aspects", "-")...)
	for _, desk := range someDesks {
		for _, line := range []string{"inline ", "copy ", "copies "} {
			for _, name := range append(wrongNames, "y", " a", "a a") {
				checkUnchanged(t, desk, line+name, "no")
			}
		}
	}
	// What is too long, and too many copies.
	w := "program a:" + strings.Repeat("P", 200)
	checkUnchanged(t, []string{w, "aspect before P P"}, "inline", "no")
	checkUnchanged(t, []string{w, "aspect before P P"}, "inline a", "no")
	checkUnchanged(t, []string{w, "aspect before P P"}, "copy a", "no")
	checkUnchanged(t, []string{w, "aspect before P P"}, "copies a", "no")
	checkDesk(t, w[:len(w)-1], w[8:len(w)-1], "aspect before P P", "observer", "inline", "a:"+strings.Repeat("P", 398))
	loops := []string{"program a:CbCcCdCeCf;b:Ca;c:Ca;d:Ca;e:Ca;f:Ca", "aspect before &&&&FbFcFdFeFf P"}
	for _, line := range []string{"copy a", "copies a", "inline", "inline a"} {
		checkUnchanged(t, loops, line, "no")
	}
	checkDesk(t, "aspect around P ", "keeper", "program a:PP", "a:PP", "copies a", "a of a with []", "copy a", "a:", "size", "0")
}

func TestCutsAtTheDesk(t *testing.T) {
	checkDesk(t, "cut P", "print", "cut", "P", "show", "print", "cut &|PN!!Fa", "((print or never) and not not active a)", "cut", "&|PN!!Fa", "simplify", "&PFa", "cut", "&PFa", "show", "(print and active a)", "opposite", "|!P!Fa", "cut", "|!P!Fa", "opposite", "&PFa", "simplify", "&PFa")
	checkDesk(t, "cut !T", "not always", "never", "true", "always", "false", "simplify", "N", "never", "true", "opposite", "T", "always", "true")
	checkDesk(t, "cut &Wa!Fa", "(within a and not active a)", "never", "true", "always", "false", "simplify", "&Wa!Fa", "opposite", "|!WaFa", "always", "true", "never", "false")
	checkDesk(t, "cut Wb", "within b", "same Fb", "print in ba", "same Wb", "same", "same &WbFb", "same", "same N", "print in b", "same T", "print in a", "cut", "Wb", "cut Ca", "call a", "same |CaCb", "call b in a", "same P", "print in a")
	// Six names are not compared, so that such a cut is neither never nor always, nor the same as itself.
	checkDesk(t, "cut &&&&&CaCbCcCdCeN", "(((((call a and call b) and call c) and call d) and call e) and never)", "never", "true", "same N", "same", "same Cf", "no", "same &NCf", "no", "cut &N||||||CaCbCcCdCeCfT", "(never and ((((((call a or call b) or call c) or call d) or call e) or call f) or always))", "never", "false", "always", "false", "same N", "no", "same T", "no", "same &N||||||CaCbCcCdCeCfT", "no", "simplify", "N", "never", "true", "same N", "same")
	// An opposite of 40 bytes, and one of 41.
	signs, prints := strings.Repeat("&", 12), strings.Repeat("P", 11)
	checkDesk(t, "cut "+signs+"CaCa"+prints, impl.ShowCut(signs+"CaCa"+prints), "opposite", strings.Repeat("|", 12)+"!Ca!Ca"+strings.Repeat("!P", 11))
	checkUnchanged(t, []string{"cut &" + signs + "PPP" + prints}, "opposite", "no")
	for _, desk := range someDesks {
		for _, s := range append([]string{" P", "P P", "P\t", "cut P"}, noCuts...) {
			checkUnchanged(t, desk, "cut "+s, "no")
			checkUnchanged(t, desk, "same "+s, "no")
		}
	}
}

func TestShadowsAtTheDesk(t *testing.T) {
	checkDesk(t, "program a:?[PCb][CaP];b:P", "a:?[PCb][CaP];b:P", "shadows", "print in a yes\ncall b in a yes\ncall a in a yes\nprint in a yes\nprint in b yes", "known", "5 0 0", "cut &PFb", "(print and active b)", "shadows", "print in a open\ncall b in a no\ncall a in a no\nprint in a open\nprint in b yes", "known", "1 2 2", "cut N", "never", "known", "0 5 0", "shadows", "print in a no\ncall b in a no\ncall a in a no\nprint in a no\nprint in b no")
	// A cut of another program, and a program without shadows.
	checkDesk(t, "program y:PCz;z:", "y:PCz;z:", "cut |CzFy", "(call z or active y)", "shadows", "print in y yes\ncall z in y yes", "program a:PCa", "a:PCa", "shadows", "print in a open\ncall a in a open", "known", "0 0 2", "cut", "|CzFy", "program a:+1?[][]", "a:+1?[][]", "shadows", "-", "known", "0 0 0")
	checkDesk(t, "program a:CbCc;b:Cc;c:P;d:Ca", "a:CbCc;b:Cc;c:P;d:Ca", "active a c", "ac abc", "active a a", "a a", "active b c", "bc bc", "active d c", "acd abcd", "active c c", "c c", "active a d", "no", "active c a", "no", "active a y", "no", "active y a", "no", "active y y", "no")
	for _, desk := range someDesks {
		for _, rest := range []string{"", " ", "a", "a ", " a", "  ", "a  a", " a a", "a a ", "a a a", "aa a", "a aa", "aa", "A a", "a A", "a\ta", "y y", "a y", "y a", "a \xff", "\x00 a", "a:a"} {
			checkUnchanged(t, desk, "active "+rest, "no")
		}
	}
}

func TestRunsAtTheDesk(t *testing.T) {
	checkDesk(t, "program a:PCb;b:?[-1Cb][P]", "a:PCb;b:?[-1Cb][P]", "aspect before &PWb +5", "changer", "aspect around Cb KP", "observer", "cut |PWa", "(print or within a)",
		"run a 1", "0: 1 0 done 7", "woven a 1", "5: 1 5 5 5 done 10", "points a 1", "print in a\ncall b in a\ncall b in ab\nprint in abb", "matches a 1", "print in a\ncall b in a\nprint in abb", "tree a 1", "a(b(b))", "calls a 1", "0 2", "done a 1", "1 2", "changes a 1", "true",
		"run b 0", "0: 0 done 2", "woven b 0", "5: 5 done 3", "points b 0", "print in b", "matches b 0", "print in b", "tree b 0", "b", "calls b 0", "0 0", "done b 0", "1 0", "changes b 0", "true",
		"drop", "ok", "woven a 1", "0: 1 0 done 7", "done a 1", "-", "changes a 1", "false", "cut N", "never", "matches a 1", "-", "aspect after T ?[][]", "observer", "woven a 1", "0: 1 0 done 11", "changes a 1", "false")
	// The join points of a woven run are not those of the other one, which the cut chooses from.
	checkDesk(t, "program a:PCb;b:P", "a:PCb;b:P", "aspect around Cb KK", "repeater", "points a 0", "print in a\ncall b in a\nprint in ab\nprint in ab", "matches a 0", "print in a\ncall b in a\nprint in ab", "calls a 0", "0 1", "tree a 0", "a(b)", "run a 3", "3: 3 3 done 3", "woven a 3", "3: 3 3 3 done 5")
	// Runs that end with deep and with long.
	checkDesk(t, "program a:+1Ca", "a:+1Ca", "run a 0", "20: deep 40", "woven a 0", "20: deep 40", "tree a 0", strings.Repeat("a(", 20)+"a"+strings.Repeat(")", 20), "calls a 0", "20", "changes a 0", "false", "aspect around Ca K", "observer", "done a 0", "20", "aspect around Ca KK", "repeater", "woven a 0", "20: deep 40", "done a 0", "20 20", "drop", "ok", "aspect around Ca ", "keeper", "woven a 0", "1: done 1", "changes a 0", "true")
	long := "a:" + strings.Repeat("Cb", 26) + ";b:+1" + strings.Repeat("*1", 18)
	checkDesk(t, "program "+long, long, "run a 9990", "15: long 500", "woven a 9990", "15: long 500", "calls a 9990", "0 26", "aspect before Cb +1", "changer", "woven a 9990", "38: long 500")
	// Trees of 300 bytes, and of one more.
	w := strings.Repeat("Cb", 9) + ";b:" + strings.Repeat("Cc", 30) + ";c:"
	checkDesk(t, "program a:"+w, "a:"+w, "tree a 0", "a("+strings.Repeat("b("+strings.Repeat("c", 30)+")", 9)+")", "program a:Cc"+w, "a:Cc"+w, "tree a 0", "no", "calls a 0", "0 9 271")
}

// runWords are the words of the lines that need a procedure and a value.
var runWords = []string{"run", "woven", "points", "matches", "tree", "calls", "done", "changes"}

func TestRestsOfRunsAtTheDesk(t *testing.T) {
	for _, desk := range someDesks {
		for _, word := range runWords {
			for _, rest := range []string{"", " ", "a", "a ", " a", "  ", "a  1", " a 1", "a 1 ", "a 1 1", "1", "1 a", " 1", "a\t1", "a1", "a:1", "A 1", "aa 1", "ab 1", "\xff 1", "\x00 1", "y 1", "z1 1"} {
				checkUnchanged(t, desk, word+" "+rest, "no")
			}
			for _, number := range []string{"10000", "-10000", "12345678901234567", "-12345678901234567", "123456789012345678", "9223372036854775808", "18446744073709551617", "-9223372036854775809", strings.Repeat("9", 100), "00", "01", "-01", "-0", "+0", "+1", "--1", "-", "1-", "0x1", "1e1", "1.0", "1_0", "1,0", "x", "\xff", "1\r", "\x001", "１", strings.Repeat("0", 16) + "1", strings.Repeat("0", 17) + "1", strings.Repeat("0", 19)} {
				checkUnchanged(t, desk, word+" a "+number, "no")
			}
		}
	}
}

func TestValuesOfRunsAtTheDesk(t *testing.T) {
	for _, value := range []int{0, 1, 9, 10, 99, 100, 999, 1000, 9998, 9999} {
		for _, n := range []string{strconv.Itoa(value), strconv.Itoa(-value)} {
			truth := strconv.FormatBool(n != "0")
			checkDesk(t, "program a:?[P][];b:", "a:?[P][];b:", "body a P", "a:P;b:", "aspect before P *0", "changer", "cut P", "print",
				"run a "+n, n+": "+n+" done 1", "woven a "+n, "0: 0 done 2", "points a "+n, "print in a", "matches a "+n, "print in a", "tree a "+n, "a", "calls a "+n, "0 0", "done a "+n, "1", "changes a "+n, truth,
				"run b "+n, n+": done 0", "points b "+n, "-", "matches b "+n, "-", "done b "+n, "0", "changes b "+n, "false")
		}
	}
}

func TestLinesThatTheTableLacks(t *testing.T) {
	alone := []string{"size", "aspects", "drop", "around", "observers", "quiet", "show", "simplify", "opposite", "never", "always", "shadows", "known"}
	withRest := []string{"body", "rename", "reach", "aspect", "swap", "copies", "copy", "same", "active", "run", "woven", "points", "matches", "tree", "calls", "done", "changes"}
	both := []string{"program", "inline", "cut"}
	lines := append([]string{" ", "  ", "x", "what", "no", "\t", "\r", "\x00", "\xff", "\xff a", "program\t", "size\r", "size\x00", "Size", "SIZE", "siz", "sizes", "run\ta 1", "runa 1", "long", "full", "ok", "-", "a:", "T", "ä", "program:", "inlinea"}, withRest...)
	for _, word := range append(append(alone, withRest...), both...) {
		lines = append(lines, " "+word, word+"\t", word+"_", word+word, strings.ToUpper(word), strings.ToUpper(word[:1])+word[1:]+" a", word+"_ a", "\t"+word+" a", "_ "+word)
	}
	for _, word := range alone {
		lines = append(lines, word+" ", word+" a", word+" 0", word+" a 1", word+"  ", word+" "+word)
	}
	for _, desk := range someDesks {
		for _, line := range lines {
			checkUnchanged(t, desk, line, "what")
		}
	}
	// An empty rest is another line than none.
	for _, word := range append(withRest, both...) {
		checkUnchanged(t, nil, word+" ", "no")
	}
}

func TestEmptyLines(t *testing.T) {
	for script, want := range map[string]string{
		"": "", "\n": "", "\n\n\n": "", "size": "0\n", "size\n": "0\n", "\nsize": "0\n", "\n\nsize\n\n": "0\n", "size\n\n\nsize": "0\n0\n", "\n \n": "what\n", "size\n\x00": "0\nwhat\n", "size\r\nsize": "what\n0\n",
		"program b:\n\nprogram": "b:\nb:\n", "program\n ": "a:\nwhat\n", "program ": "no\n", "program \n": "no\n", "body a \nbody": "a:\nwhat\n",
	} {
		if got := impl.RunScript(script); got != want {
			t.Errorf("RunScript(%q) = %q, want %q", script, got, want)
		}
	}
}

func TestLimitOfLines(t *testing.T) {
	for _, c := range []struct{ script, want string }{
		{strings.Repeat("x\n", 99), strings.Repeat("what\n", 99)},
		{strings.Repeat("x\n", 100), strings.Repeat("what\n", 100)},
		{strings.Repeat("x\n", 99) + "x", strings.Repeat("what\n", 100)},
		{strings.Repeat("x\n", 100) + "x", strings.Repeat("what\n", 100) + "full\n"},
		{strings.Repeat("x\n", 102), strings.Repeat("what\n", 100) + "full\n"},
		{strings.Repeat("size\n", 1000), strings.Repeat("0\n", 100) + "full\n"},
		// Empty lines count as lines, but are none too many.
		{strings.Repeat("\n", 99) + "size", "0\n"}, {strings.Repeat("\n", 100) + "size", "full\n"}, {strings.Repeat("\n", 100) + " ", "full\n"}, {strings.Repeat("\n", 150), ""}, {strings.Repeat("\n", 150) + "x\nsize", "full\n"},
		{strings.Repeat("x\n", 100) + strings.Repeat("\n", 50), strings.Repeat("what\n", 100)}, {strings.Repeat("x\n", 100) + "\n\nx\nx", strings.Repeat("what\n", 100) + "full\n"},
		{strings.Repeat("\nsize\n", 50), strings.Repeat("0\n", 50)}, {strings.Repeat("\nsize\n", 51), strings.Repeat("0\n", 50) + "full\n"}, {"size\n" + strings.Repeat("\n", 98) + "size\nsize", "0\n0\nfull\n"},
		// What changes nothing counts too.
		{"program b:\n" + strings.Repeat("run a 1\n", 98) + "program\nprogram", "b:\n" + strings.Repeat("no\n", 98) + "b:\nfull\n"},
	} {
		if got := impl.RunScript(c.script); got != c.want {
			t.Errorf("RunScript(%q) = %q, want %q", c.script, got, c.want)
		}
	}
}

func TestLimitOfScripts(t *testing.T) {
	for _, c := range []struct{ script, want string }{
		{strings.Repeat("\n", 20000), ""}, {strings.Repeat("\n", 20001), "long\n"}, {strings.Repeat("x", 20000), "what\n"}, {strings.Repeat("x", 20001), "long\n"},
		{"size\n" + strings.Repeat("x", 19995), "0\nwhat\n"}, {"size\n" + strings.Repeat("x", 19996), "long\n"}, {"size\n" + strings.Repeat("\n", 19995), "0\n"}, {"size\n" + strings.Repeat("\n", 19996), "long\n"},
		{"program " + strings.Repeat("a", 19992), "no\n"}, {"program " + strings.Repeat("a", 19993), "long\n"}, {strings.Repeat("\n", 19999) + "x", "full\n"}, {strings.Repeat("\n", 20000) + "x", "long\n"}, {strings.Repeat("ä", 10000), "what\n"}, {strings.Repeat("ä", 10000) + "\n", "long\n"},
		{strings.Repeat("size\n", 1000000), "long\n"},
	} {
		if got := impl.RunScript(c.script); got != c.want {
			t.Errorf("RunScript of %d bytes, %.20q = %q, want %q", len(c.script), c.script, got, c.want)
		}
	}
}

// linesThatWrite returns at most 99 lines that write just so many bytes, 5970 of them by the last line, and what they write.
func linesThatWrite(bytes int) (string, string) {
	w := "a:" + strings.Repeat("P", 398)
	lines, output := "program "+w+"\n", w+"\n"
	shown := strings.Repeat("print in a yes\n", 398)
	last := bytes - len(shown)
	for len(output)+len(shown)+10 <= last {
		lines, output = lines+"shadows\n", output+shown
	}
	for len(output)+len(w)+10 <= last {
		lines, output = lines+"program\n", output+w+"\n"
	}
	for (last-len(output))%5 != 0 {
		lines, output = lines+"run \n", output+"no\n"
	}
	for len(output) < last {
		lines, output = lines+"x\n", output+"what\n"
	}
	return lines + "shadows\n", output + shown
}

func TestLimitOfOutput(t *testing.T) {
	shown := strings.Repeat("print in a yes\n", 398)
	for bytes := 39990; bytes <= 40020; bytes++ {
		lines, output := linesThatWrite(bytes)
		if len(output) != bytes || strings.Count(lines, "\n") > 99 {
			t.Fatalf("%d lines write %d bytes, want %d", strings.Count(lines, "\n"), len(output), bytes)
		}
		behind := map[string]string{"": "", "\n\n": "", "size": "398\n", "x": "what\n", "shadows": shown, "shadows\n\n": shown, "shadows\nsize\nx": shown + "full\n", "\nshadows\n\n\nx\nx": shown + "full\n"}
		if bytes > 40000 {
			behind = map[string]string{"": "", "\n\n": "", "size": "full\n", "x": "full\n", "\n\nsize\n": "full\n", "drop\nsize\nx": "full\n", "\nx\n\nx": "full\n"}
		}
		for more, want := range behind {
			if got := impl.RunScript(lines + more); got != output+want {
				t.Errorf("after %d bytes, %q: %d bytes with %.20q behind, want %.20q", bytes, more, len(got), strings.TrimPrefix(got, output), want)
			}
		}
	}
	// One line may write much more than that.
	w := "a:" + strings.Repeat("P", 394) + "Ca"
	points := ""
	for n := 1; n <= 20; n++ {
		points += strings.Repeat("print in "+strings.Repeat("a", n)+"\n", 394) + "call a in " + strings.Repeat("a", n) + "\n"
	}
	if got, want := impl.RunScript("program "+w+"\naspect around P \npoints a 0\n\nsize"), w+"\nkeeper\n"+points+"full\n"; got != want {
		t.Errorf("%d bytes, want %d", len(got), len(want))
	}
}

// A modelDesk answers lines by asking the functions.
type modelDesk struct {
	w    string
	list []impl.Aspect
	c    string
}

var numberText = regexp.MustCompile(`^(0|-?[1-9][0-9]{0,16})$`)

func orNo(text string, ok bool) string {
	if !ok {
		return "no"
	}
	return text
}

// becomes changes a program or a cut, unless there is nothing to change it to.
func becomes(old *string, text string, ok bool) string {
	if ok {
		*old = text
	}
	return orNo(text, ok)
}

func (d *modelDesk) weaves(w string, ok bool) string {
	if ok {
		d.list = nil
	}
	return becomes(&d.w, w, ok)
}

func (d *modelDesk) listed(list []impl.Aspect, ok bool) string {
	if !ok {
		return "no"
	}
	d.list = list
	var texts []string
	for _, a := range list {
		texts = append(texts, impl.ClassOf(a)+" "+textOf(a))
	}
	return linesText(texts)
}

// linesText writes texts on lines, if there are some.
func linesText(texts []string) string {
	if len(texts) == 0 {
		return "-"
	}
	return strings.Join(texts, "\n")
}

func eachPoint(points []impl.JoinPoint, ok bool) string {
	var texts []string
	for _, j := range points {
		texts = append(texts, impl.FormatPoint(j))
	}
	return orNo(linesText(texts), ok)
}

func orNone(text string) string {
	if text == "" {
		return "-"
	}
	return text
}

func (d *modelDesk) answer(line string) string {
	word, rest, hasRest := strings.Cut(line, " ")
	if !hasRest {
		return d.answerWord(word)
	}
	if slices.Contains(runWords, word) {
		name, number, _ := strings.Cut(rest, " ")
		if !numberText.MatchString(number) {
			return "no"
		}
		value, _ := strconv.Atoi(number)
		return d.answerRun(word, name, value)
	}
	return d.answerRest(word, rest)
}

func (d *modelDesk) answerWord(word string) string {
	switch word {
	case "program":
		return d.w
	case "size":
		return strconv.Itoa(impl.SizeOf(d.w))
	case "aspects":
		return d.listed(d.list, true)
	case "drop":
		d.list = nil
		return "ok"
	case "around":
		return d.listed(impl.AllAround(d.list))
	case "observers":
		return strconv.FormatBool(impl.AreObservers(d.list))
	case "quiet":
		return strconv.FormatBool(impl.AreQuiet(d.list))
	case "inline":
		return d.weaves(impl.InlineAspects(d.w, d.list))
	case "cut":
		return d.c
	case "show":
		return impl.ShowCut(d.c)
	case "simplify":
		return becomes(&d.c, impl.SimplifyCut(d.c), true)
	case "opposite":
		s, ok := impl.OppositeOf(d.c)
		return becomes(&d.c, s, ok)
	case "never":
		return strconv.FormatBool(impl.SameCuts(d.c, "N"))
	case "always":
		return strconv.FormatBool(impl.SameCuts(d.c, "T"))
	case "shadows":
		var texts []string
		for _, h := range impl.ShadowsOf(d.w) {
			texts = append(texts, pointsText([]impl.JoinPoint{pointOf(h, h.Within)})+" "+impl.KnownAt(d.c, h))
		}
		return linesText(texts)
	case "known":
		yes, no, open := impl.CountKnown(d.w, d.c)
		return numbersText([]int{yes, no, open})
	}
	return "what"
}

func (d *modelDesk) answerRest(word string, rest string) string {
	first, second, isPair := strings.Cut(rest, " ")
	switch word {
	case "program":
		return becomes(&d.w, rest, impl.ProgramValid(rest))
	case "body":
		w, ok := impl.WithBody(d.w, first, second)
		return becomes(&d.w, w, ok && isPair)
	case "rename":
		w, ok := impl.RenameProc(d.w, first, second)
		return becomes(&d.w, w, ok && isPair)
	case "reach":
		isProc := len(rest) == 1 && strings.Contains(impl.ProcsOf(d.w), rest)
		return orNo(orNone(impl.ReachOf(d.w, rest)), isProc)
	case "aspect":
		a, ok := impl.ParseAspect(rest)
		if !ok || len(d.list) == 5 {
			return "no"
		}
		d.list = append(slices.Clone(d.list), a)
		return impl.ClassOf(a)
	case "swap":
		i, _ := strconv.Atoi(rest)
		if !numberText.MatchString(rest) || !impl.CanSwap(d.w, d.list, i) {
			return "no"
		}
		return d.listed(impl.SwapAspects(d.list, i))
	case "inline":
		return d.weaves(impl.InlineFrom(d.w, rest, d.list))
	case "copy":
		return d.weaves(impl.CopyWeave(d.w, d.list, rest))
	case "copies":
		copies, ok := impl.CopiesOf(d.w, d.list, rest)
		var texts []string
		for _, c := range copies {
			texts = append(texts, c.Name+" of "+c.Proc+" with ["+c.Active+"]")
		}
		return orNo(linesText(texts), ok)
	case "cut":
		becomes(&d.c, rest, impl.CutValid(rest))
		return orNo(impl.ShowCut(rest), impl.CutValid(rest))
	case "same":
		if j, ok := impl.TellCuts(d.c, rest); ok {
			return impl.FormatPoint(j)
		}
		return orNo("same", impl.SameCuts(d.c, rest))
	case "active":
		must, may := impl.MustBeActive(d.w, first, second), impl.MayBeActive(d.w, first, second)
		return orNo(must+" "+may, may != "")
	}
	return "what"
}

func (d *modelDesk) answerRun(word string, name string, value int) string {
	switch word {
	case "run":
		o, ok := impl.RunProgram(d.w, name, value)
		return orNo(impl.FormatOutcome(o), ok)
	case "woven":
		o, ok := impl.RunWoven(d.w, d.list, name, value)
		return orNo(impl.FormatOutcome(o), ok)
	case "points":
		return eachPoint(impl.WovenPoints(d.w, d.list, name, value))
	case "matches":
		return eachPoint(impl.MatchesOf(d.w, name, value, d.c))
	case "tree":
		return orNo(impl.CallTree(d.w, name, value))
	case "calls":
		counts, ok := impl.CallCounts(d.w, name, value)
		return orNo(orNone(numbersText(counts)), ok)
	case "done":
		counts, ok := impl.AdviceCounts(d.w, d.list, name, value)
		return orNo(orNone(numbersText(counts)), ok)
	default:
		changes, ok := impl.ChangesRun(d.w, d.list, name, value)
		return orNo(strconv.FormatBool(changes), ok)
	}
}

// randomRest returns what stands behind a word, mostly what the table shows.
func randomRest(r *rand.Rand, word string) string {
	names := []string{"a", "b", "c", "a", "b", "c", "a", "b", "y", "ab", ""}
	name := func() string { return names[r.Intn(len(names))] }
	if slices.Contains(runWords, word) {
		numbers := []string{"0", "1", "2", "3", "-1", strconv.Itoa(randomValue(r)), strconv.Itoa(randomValue(r)), "10000", "01", "-0", "", "123456789012345678"}
		return name() + " " + numbers[r.Intn(len(numbers))]
	}
	switch word {
	case "program":
		bodies := [][]string{callingBodies(r, "abc"), layeredBodies(r, "abc"), {randomBody(r, "abc", 2), randomBody(r, "bc", 2), randomBody(r, "bc", 2)}}
		return programText("abc", bodies[r.Intn(3)])
	case "body":
		return name() + " " + randomBody(r, "abc", 1)
	case "rename", "active":
		return name() + " " + name()
	case "aspect":
		a := randomAdvice(r)
		a.Cut = []string{a.Cut, "P", "C" + string("abc"[r.Intn(3)]), "W" + string("abc"[r.Intn(3)])}[r.Intn(4)]
		return textOf(a)
	case "swap":
		return []string{"0", "1", "2", "3", "-1", "00"}[r.Intn(6)]
	case "cut":
		n := 11 + r.Intn(5)
		return []string{randomCut(r, "abcdef", 3), randomCut(r, "abc", 2), randomCut(r, "abc", 1), strings.Repeat("&", n) + strings.Repeat("P", n+1)}[r.Intn(4)]
	case "same":
		return []string{randomCut(r, "abcdef", 1), randomCut(r, "a", 1)}[r.Intn(2)]
	default:
		return name()
	}
}

// randomLine returns a line of the table, perhaps with something wrong about it.
func randomLine(r *rand.Rand) string {
	alone := []string{"program", "size", "aspects", "drop", "around", "observers", "quiet", "inline", "cut", "show", "simplify", "opposite", "never", "always", "shadows", "known"}
	withRest := append([]string{"program", "body", "rename", "reach", "aspect", "aspect", "aspect", "swap", "inline", "copy", "copies", "cut", "cut", "same", "active"}, runWords...)
	line := alone[r.Intn(len(alone))]
	if r.Intn(3) > 0 {
		word := withRest[r.Intn(len(withRest))]
		line = word + " " + randomRest(r, word)
	}
	switch i := r.Intn(len(line)); r.Intn(25) {
	case 0:
		return line[:i] + line[i+1:]
	case 1:
		return line[:i] + string(" aP0\t\xff"[r.Intn(6)]) + line[i:]
	case 2:
		return ""
	case 3:
		return strings.Replace(line, " ", "  ", 1)
	default:
		return line
	}
}

// answerAll answers the lines of a script, and counts what is answered to which word.
func answerAll(lines []string, found map[string]int) string {
	d, output := modelDesk{w: "a:", c: "T"}, ""
	for i, line := range lines {
		if line == "" {
			continue
		}
		if i >= 100 || len(output) > 40000 {
			found["full"]++
			return output + "full\n"
		}
		answer := d.answer(line)
		word, _, hasRest := strings.Cut(line, " ")
		if answer == "no" || answer == "what" {
			word = answer + ": " + word
		}
		if hasRest {
			word += " _"
		}
		found[word]++
		output += answer + "\n"
	}
	return output
}

// TestScriptsDoAsTheFunctions has random scripts, most of whose lines are done at a program, aspects and a cut that lines before them made.
func TestScriptsDoAsTheFunctions(t *testing.T) {
	r := rand.New(rand.NewSource(32))
	found := map[string]int{}
	for range 3000 {
		lines := []string{"program " + randomRest(r, "program")}
		for range r.Intn(108) {
			lines = append(lines, randomLine(r))
		}
		script := strings.Join(lines, "\n")
		if got, want := impl.RunScript(script), answerAll(lines, found); got != want {
			t.Fatalf("RunScript(%q) = %q, want %q", script, got, want)
		}
	}
	for _, word := range []string{"program", "size", "aspects", "drop", "around", "observers", "quiet", "inline", "cut", "show", "simplify", "opposite", "never", "always", "shadows", "known", "program _", "body _", "rename _", "reach _", "aspect _", "swap _", "inline _", "copy _", "copies _", "cut _", "same _", "active _", "run _", "woven _", "points _", "matches _", "tree _", "calls _", "done _", "changes _",
		"no: inline", "no: opposite", "no: program _", "no: body _", "no: rename _", "no: reach _", "no: aspect _", "no: swap _", "no: inline _", "no: copy _", "no: copies _", "no: cut _", "no: same _", "no: active _", "no: run _", "no: woven _", "no: points _", "no: matches _", "no: tree _", "no: calls _", "no: done _", "no: changes _", "full"} {
		if found[word] < 20 {
			t.Errorf("too few lines of some kind, %q: %d", word, found[word])
		}
	}
}

// TestWovenProgramsRunAlikeAtTheDesk weaves in three ways, and runs what is woven, with the names of the copies behind those of the procedures.
func TestWovenProgramsRunAlikeAtTheDesk(t *testing.T) {
	r := rand.New(rand.NewSource(33))
	found := map[string]int{}
	eachCopying(r, 4000, func(names string, bodies []string, list []impl.Aspect, start string, value int) {
		script := "program " + programText(names, bodies) + "\n"
		for _, a := range list {
			script += "aspect " + textOf(a) + "\n"
		}
		made := impl.RunScript(script)
		n := strconv.Itoa(value)
		woven := strings.TrimPrefix(impl.RunScript(script+"woven "+start+" "+n), made)
		for line, first := range map[string]string{"inline": start, "inline " + start: start, "copy " + start: "a"} {
			outputs := strings.SplitAfter(strings.TrimPrefix(impl.RunScript(script+line+"\nrun "+first+" "+n+"\naspects\nwoven "+first+" "+n), made), "\n")
			if outputs[0] == "no\n" {
				found["no "+line[:4]]++
				continue
			}
			found[line[:4]]++
			if outputs[1] != woven || outputs[2] != "-\n" || outputs[3] != woven {
				t.Fatalf("%q, then %q: %q, want %q", script, line, outputs, woven)
			}
		}
	})
	for _, line := range []string{"inli", "copy", "no inli", "no copy"} {
		if found[line] < 100 {
			t.Errorf("too few lines of some kind: %v", found)
		}
	}
}

// TestEachScriptEnds has texts that are hardly scripts, several of them at once.
func TestEachScriptEnds(t *testing.T) {
	r := rand.New(rand.NewSource(34))
	signs := "\n\n  abCP+1?[]:;KrunTN&|!\x00\xff\r\t"
	var texts []string
	for range 200 {
		text := make([]byte, r.Intn(400))
		for i := range text {
			text[i] = signs[r.Intn(len(signs))]
		}
		texts = append(texts, string(text))
	}
	for range 200 {
		lines := []string{}
		for range r.Intn(40) {
			lines = append(lines, randomLine(r))
		}
		texts = append(texts, strings.Join(lines, "\n"))
	}
	var running sync.WaitGroup
	for _, text := range texts {
		running.Add(1)
		go func() {
			defer running.Done()
			got := impl.RunScript(text)
			if got != impl.RunScript(text) || got != "" && !strings.HasSuffix(got, "\n") || got != answerAll(strings.Split(text, "\n"), map[string]int{}) {
				t.Errorf("RunScript(%q) = %q", text, got)
			}
		}()
	}
	running.Wait()
}
