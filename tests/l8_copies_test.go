package tests

import (
	"math/rand"
	"slices"
	"strings"
	"sync"
	"testing"

	"loop.example/wovenprograms/impl"
)

// copiesText returns the names of copies, each with its procedure and what is active there.
func copiesText(list []impl.Copy) string {
	var parts []string
	for _, c := range list {
		parts = append(parts, c.Name+"="+c.Proc+"["+c.Active+"]")
	}
	return strings.Join(parts, " ")
}

func checkStack(t *testing.T, w string, list []impl.Aspect, start string, stack string, want string) {
	t.Helper()
	if got, ok := impl.CopyStack(w, list, start, stack); got != want || !ok {
		t.Errorf("CopyStack(%q, %q, %q, %q) = %q, %v, want %q", w, list, start, stack, got, ok, want)
	}
}

func checkNoStack(t *testing.T, w string, list []impl.Aspect, start string, stack string) {
	t.Helper()
	if got, ok := impl.CopyStack(w, list, start, stack); got != "" || ok {
		t.Errorf("CopyStack(%q, %q, %q, %q) = %q, %v, want none", w, list, start, stack, got, ok)
	}
}

// checkCopied asks every function that weaves by copies.
func checkCopied(t *testing.T, w string, list []impl.Aspect, start string, copies string, want string) {
	t.Helper()
	if got, ok := impl.CopiesOf(w, list, start); copiesText(got) != copies || !ok {
		t.Errorf("CopiesOf(%q, %q, %q) = %q, %v, want %q", w, list, start, copiesText(got), ok, copies)
	}
	if got, ok := impl.CopyWeave(w, list, start); got != want || !ok {
		t.Errorf("CopyWeave(%q, %q, %q) = %q, %v, want %q", w, list, start, got, ok, want)
	}
	checkStack(t, w, list, start, start, "a")
}

func checkNotCopied(t *testing.T, w string, list []impl.Aspect, start string) {
	t.Helper()
	if got, ok := impl.CopiesOf(w, list, start); len(got) != 0 || ok {
		t.Errorf("CopiesOf(%q, %q, %q) = %q, %v, want none", w, list, start, copiesText(got), ok)
	}
	if got, ok := impl.CopyWeave(w, list, start); got != "" || ok {
		t.Errorf("CopyWeave(%q, %q, %q) = %q, %v, want none", w, list, start, got, ok)
	}
	for _, stack := range []string{start, "a", ""} {
		checkNoStack(t, w, list, start, stack)
	}
}

// A copyCase is a program with advice and start, its copies, and the program of them.
type copyCase struct {
	w, start string
	advice   []string
	copies   string
	want     string
}

func checkCopyCases(t *testing.T, cases []copyCase) {
	t.Helper()
	for _, c := range cases {
		if !impl.ProgramValid(c.w) || !impl.ProgramValid(c.want) {
			t.Errorf("%q or %q is no program", c.w, c.want)
		}
		checkCopied(t, c.w, aspectsOf(t, c.advice...), c.start, c.copies, c.want)
	}
}

// allActive returns a cut that asks whether all of some procedures are active.
func allActive(names string) string {
	return strings.Repeat("&", len(names)-1) + "F" + strings.Join(strings.Split(names, ""), "F")
}

// watching returns advice that does nothing but watch these procedures.
func watching(names string) []impl.Aspect {
	var list []impl.Aspect
	for part := range slices.Chunk([]byte(names), 13) {
		list = append(list, impl.Aspect{Kind: "before", Cut: allActive(string(part))})
	}
	return list
}

func TestWatchedBy(t *testing.T) {
	for _, c := range []struct {
		advice []string
		want   string
	}{
		{nil, ""}, {[]string{"before T +1"}, ""}, {[]string{"before Fa P"}, "a"}, {[]string{"around Fz "}, "z"}, {[]string{"after !!Fm -1"}, "m"},
		// What is called and what runs is not watched.
		{[]string{"before Ca P", "after Wb P", "around &CcWd K"}, ""}, {[]string{"before &CaFb P", "after |FcWd P", "around ||CeWfFg K"}, "bcg"},
		// In ascending order, each one once, whatever the cuts have.
		{[]string{"before |FcFa P", "after Fc P", "after Cb P"}, "ac"}, {[]string{"before Fz ", "before Fy ", "before Fx ", "before Fw ", "before Fa "}, "awxyz"}, {[]string{"before &&FaFaFa P"}, "a"}, {[]string{"before &NFq ", "after |T!Fp "}, "pq"}, {[]string{"around !&!|FdFb!&FaFc "}, "abcd"},
		// It is not asked whether there is advice around that does the same.
		{[]string{"before Fb " + strings.Repeat("P", 60)}, "b"},
	} {
		if got := impl.WatchedBy(aspectsOf(t, c.advice...)); got != c.want {
			t.Errorf("WatchedBy(%q) = %q, want %q", c.advice, got, c.want)
		}
	}
	for i := range letters {
		for _, names := range []string{letters[i:], letters[:i+1], letters[i : i+1]} {
			if got := impl.WatchedBy(watching(names)); got != names {
				t.Errorf("WatchedBy %q = %q", names, got)
			}
		}
	}
}

func TestAspectsThatWatchNothing(t *testing.T) {
	lists, _ := listsThatCannotBePlaced(t)
	for _, list := range lists {
		lists = append(lists, append(aspectsOf(t, "before Fa P"), list...))
	}
	lists = append(lists, []impl.Aspect{{Cut: "Fa"}}, []impl.Aspect{{Kind: "before", Cut: "Fa", Body: "K"}}, []impl.Aspect{{Kind: "around", Cut: "Fa", Body: "Ca"}}, []impl.Aspect{{Kind: "before", Cut: "FaFb"}}, []impl.Aspect{{Kind: "before", Cut: "F"}}, slices.Repeat(aspectsOf(t, "before Fa "), 6), append(aspectsOf(t, "before Fa P"), impl.Aspect{}))
	for _, list := range lists {
		if got := impl.WatchedBy(list); got != "" {
			t.Errorf("WatchedBy(%q) = %q", list, got)
		}
	}
}

func TestCopies(t *testing.T) {
	w := "a:CbCc;b:Cc;c:P"
	checkCopyCases(t, []copyCase{
		{w, "a", []string{"before &PFb +1"}, "a=a[] b=b[b] c=c[] d=c[b]", "a:CbCc;b:Cd;c:P;d:+1P"},
		// No aspects, or none that ask what is active.
		{w, "a", nil, "a=a[] b=b[] c=c[]", w}, {w, "b", nil, "a=b[] b=c[]", "a:Cb;b:P"}, {w, "c", nil, "a=c[]", "a:P"}, {"z:", "z", nil, "a=z[]", "a:"}, {w, "a", []string{"around Cc "}, "a=a[] b=b[] c=c[]", "a:Cb;b:;c:P"},
		{w, "a", []string{"before T +1"}, "a=a[] b=b[] c=c[]", "a:+1Cb+1Cc;b:+1Cc;c:+1P"}, {"a:P;b:P;c:Ca", "b", []string{"before T -1"}, "a=b[]", "a:-1P"}, {"a:*2?[-1][+3]", "a", []string{"before T -1"}, "a=a[]", "a:*2?[-1][+3]"},
		// The prints of advice have no advice.
		{"a:PCa", "a", []string{"around P PKP", "after Ca P"}, "a=a[]", "a:PPPCaP"},
		// In the first copy just start is active, if it is watched.
		{w, "a", []string{"before Fa +1"}, "a=a[a] b=b[a] c=c[a]", "a:+1Cb+1Cc;b:+1Cc;c:+1P"}, {w, "b", []string{"before Fa +1"}, "a=b[] b=c[]", "a:Cb;b:P"}, {w, "c", []string{"before Fc +1"}, "a=c[c]", "a:+1P"},
		{"p:PCq;q:PCp", "p", []string{"before Fq -1"}, "a=p[] b=q[q] c=p[q]", "a:PCb;b:-1P-1Cc;c:-1P-1Cb"}, {"p:PCq;q:PCp", "q", []string{"before Fq -1"}, "a=q[q] b=p[q]", "a:-1P-1Cb;b:-1P-1Ca"},
		// Watched procedures that the program does not have are never active.
		{w, "a", []string{"before Fz +1"}, "a=a[] b=b[] c=c[]", w}, {w, "a", []string{"before !Fz +1"}, "a=a[] b=b[] c=c[]", "a:+1Cb+1Cc;b:+1Cc;c:+1P"}, {w, "a", []string{"before |FbFx +1", "after &Fy!Fb -1"}, "a=a[] b=b[b] c=c[] d=c[b]", "a:CbCc;b:+1Cd;c:P;d:+1P"},
		// Neither are those to which no calls lead, and there are no copies of them.
		{"a:Cb;b:P;c:PCb", "a", []string{"before |FcFb P"}, "a=a[] b=b[b]", "a:Cb;b:PP"},
		// What calls is active, and what is called is not yet; it is no longer when it has ended.
		{"a:Cb;b:Cc;c:", "a", []string{"before Fb +1"}, "a=a[] b=b[b] c=c[b]", "a:Cb;b:+1Cc;c:"}, {"a:CbPCb;b:", "a", []string{"before Fb +1"}, "a=a[] b=b[b]", "a:CbPCb;b:"},
		// The active ones are in ascending order, in whichever order they were called.
		{"a:P;b:Cc;c:Ca;d:Cb", "d", []string{"before &&FaFb&FcFd +1"}, "a=d[d] b=b[bd] c=c[bcd] d=a[abcd]", "a:Cb;b:Cc;c:Cd;d:+1P"}, {"a:CbCc;b:Cc;c:CbP", "a", []string{"before &P&FbFc +1"}, "a=a[] b=b[b] c=c[c] d=c[bc] e=b[bc]", "a:CbCc;b:Cd;c:CeP;d:Ce+1P;e:Cd"},
		// All advice of the list, in order.
		{"a:CbCcP;b:CcP;c:P", "a", []string{"before Fb +1", "around P K-2P", "after &Cc!Fb *3", "before Fc +4"}, "a=a[] b=b[b] c=c[c] d=c[bc]", "a:CbCc*3P-2P;b:+1Cd+1P-2P;c:+4P-2P;d:+1+4P-2P"},
	})
	checkCopied(t, w, []impl.Aspect{}, "a", "a=a[] b=b[] c=c[]", w)
}

func TestOrderOfCopies(t *testing.T) {
	checkCopyCases(t, []copyCase{
		// In the order of the text, not that of the names; each one is found once.
		{"a:CzCb;b:Cz;z:", "a", nil, "a=a[] b=z[] c=b[]", "a:CbCc;b:;c:Cb"}, {"a:CdCcCcCd;c:;d:P", "a", nil, "a=a[] b=d[] c=c[]", "a:CbCcCcCb;b:P;c:"},
		// They are gone through in the order in which they are found, and not each one when it is found.
		{"a:CbCc;b:Cd;c:Ce;d:;e:P", "a", nil, "a=a[] b=b[] c=c[] d=d[] e=e[]", "a:CbCc;b:Cd;c:Ce;d:;e:P"}, {"a:CzCy;w:;x:P;y:Cw;z:Cx", "a", nil, "a=a[] b=z[] c=y[] d=x[] e=w[]", "a:CbCc;b:Cd;c:Ce;d:P;e:"}, {"a:Cn;m:CxCa;n:P;x:Ca", "m", nil, "a=m[] b=x[] c=a[] d=n[]", "a:CbCc;b:Cc;c:Cd;d:P"},
		// Within choices too, the first body in front of the second one.
		{"a:?[?[Ce][Cd]Cc][Cb]Cf;b:;c:;d:;e:;f:", "a", nil, "a=a[] b=e[] c=d[] d=c[] e=b[] f=f[]", "a:?[?[Cb][Cc]Cd][Ce]Cf;b:;c:;d:;e:;f:"}, {"a:?[][?[][*0?[Cb][]]];b:P", "a", []string{"before P +1"}, "a=a[] b=b[]", "a:?[][?[][*0?[Cb][]]];b:+1P"},
		// Also where advice keeps the call out; and what is found there is gone through.
		{"a:CcCb;b:P;c:Cd;d:P", "a", []string{"around Cc "}, "a=a[] b=c[] c=b[] d=d[]", "a:Cc;b:Cd;c:P;d:P"}, {"a:Cb;b:Cc;c:P", "a", []string{"around T "}, "a=a[] b=b[] c=c[]", "a:;b:;c:"}, {"a:Cb;b:Cc;c:P", "a", []string{"around Cb ", "before &PFb +1"}, "a=a[] b=b[b] c=c[b]", "a:;b:Cc;c:+1P"},
		{"a:?[Cc][]Cb;b:Cc;c:", "a", []string{"around &CcFb +1", "around &CcWa "}, "a=a[] b=c[] c=b[b] d=c[b]", "a:?[][]Cc;b:;c:+1;d:"}, {"a:CbCc;b:Ca;c:", "a", []string{"around |CbFb "}, "a=a[] b=b[b] c=c[] d=a[b] e=c[b]", "a:Cc;b:;c:;d:;e:"},
		// Where advice proceeds several times, or not in order, too.
		{"a:CcCb;b:;c:", "a", []string{"around Cc KKK"}, "a=a[] b=c[] c=b[]", "a:CbCbCbCc;b:;c:"}, {"a:CcCb;b:;c:", "a", []string{"around Cb ?[][K]", "after Cc +1"}, "a=a[] b=c[] c=b[]", "a:Cb+1?[][Cc];b:;c:"},
		// Several copies of one procedure.
		{"a:CcCbCc;b:CcCc;c:P", "a", []string{"before &PFb +1"}, "a=a[] b=c[] c=b[b] d=c[b]", "a:CbCcCb;b:P;c:CdCd;d:+1P"}, {"a:CbCc;b:CcCa;c:CbP", "a", []string{"before &P&FbFc +1"}, "a=a[] b=b[b] c=c[c] d=c[bc] e=a[b] f=b[bc] g=a[bc]", "a:CbCc;b:CdCe;c:CfP;d:Cf+1P;e:CbCd;f:CdCg;g:CfCd"},
	})
}

func TestProceduresThatCallThemselves(t *testing.T) {
	checkCopyCases(t, []copyCase{
		// Watched and not.
		{"a:?[-1Ca][P]", "a", []string{"before &PFa P"}, "a=a[a]", "a:?[-1Ca][PP]"}, {"a:?[-1Ca][P]", "a", nil, "a=a[]", "a:?[-1Ca][P]"}, {"a:?[-1Ca][P]", "a", []string{"before &PFb P"}, "a=a[]", "a:?[-1Ca][P]"}, {"a:?[-1Ca][P]", "a", []string{"around Ca ", "before Fa +1"}, "a=a[a]", "a:?[-1][+1P]"}, {"q:PCqCq", "q", []string{"before &CqFq +1"}, "a=q[q]", "a:P+1Ca+1Ca"},
		{"a:Cb;b:?[-1Cb][P]", "a", []string{"before &CbFb P"}, "a=a[] b=b[b]", "a:Cb;b:?[-1PCb][P]"}, {"a:Cb;b:?[-1Cb][P]", "a", []string{"before &PFa P"}, "a=a[a] b=b[a]", "a:Cb;b:?[-1Cb][PP]"}, {"a:CcCb;b:Cb;c:Cc", "a", []string{"before &CbFb P"}, "a=a[] b=c[] c=b[b]", "a:CbCc;b:Cb;c:PCc"},
		// By way of others.
		{"a:Cb;b:?[-1Ca][P]", "a", []string{"before &CaFb P"}, "a=a[] b=b[b] c=a[b]", "a:Cb;b:?[-1PCc][P];c:Cb"}, {"a:Cb;b:?[-1Ca][P]", "a", nil, "a=a[] b=b[]", "a:Cb;b:?[-1Ca][P]"}, {"a:Cb;b:?[-1Ca][P]", "a", []string{"before &CaFa P"}, "a=a[a] b=b[a]", "a:Cb;b:?[-1PCa][P]"}, {"a:Cb;b:Cc;c:CaCb", "a", []string{"before &CbFc P"}, "a=a[] b=b[] c=c[c] d=a[c] e=b[c]", "a:Cb;b:Cc;c:CdPCe;d:PCe;e:Cc"},
		{"a:CaCb;b:CbCa", "a", []string{"before Fb "}, "a=a[] b=b[b] c=a[b]", "a:CaCb;b:CbCc;c:CcCb"}, {"a:CaCb;b:CbCa", "b", []string{"before Fb "}, "a=b[b] b=a[b]", "a:CaCb;b:CbCa"}, {"a:CaCb;b:CbCa", "a", []string{"before &FaFb "}, "a=a[a] b=b[ab] c=a[ab]", "a:CaCb;b:CbCc;c:CcCb"},
	})
}

// TestCutsInCopies asks for what is called and what runs by the names of procedures, which other copies have.
func TestCutsInCopies(t *testing.T) {
	w, copies := "a:CcCbP;b:CcP;c:P", "a=a[] b=c[] c=b[b] d=c[b]"
	for cut, want := range map[string]string{
		"Fb": "a:CbCcP;b:P;c:+1Cd+1P;d:+1P", "!Fb": "a:+1Cb+1Cc+1P;b:+1P;c:CdP;d:P", "|FbT": "a:+1Cb+1Cc+1P;b:+1P;c:+1Cd+1P;d:+1P", "&FbN": "a:CbCcP;b:P;c:CdP;d:P",
		"&CcFb": "a:CbCcP;b:P;c:+1CdP;d:P", "&Cc!Fb": "a:+1CbCcP;b:P;c:CdP;d:P", "&Cb!Fb": "a:Cb+1CcP;b:P;c:CdP;d:P", "|CbFb": "a:Cb+1CcP;b:P;c:+1Cd+1P;d:+1P", "&CbFb": "a:CbCcP;b:P;c:CdP;d:P", "&CdFb": "a:CbCcP;b:P;c:CdP;d:P", "|CcFb": "a:+1CbCcP;b:P;c:+1Cd+1P;d:+1P",
		"&WcFb": "a:CbCcP;b:P;c:CdP;d:+1P", "&Wc!Fb": "a:CbCcP;b:+1P;c:CdP;d:P", "&WbFb": "a:CbCcP;b:P;c:+1Cd+1P;d:P", "&Wb!Fb": "a:CbCcP;b:P;c:CdP;d:P", "&WdFb": "a:CbCcP;b:P;c:CdP;d:P", "&Wa!Fb": "a:+1Cb+1Cc+1P;b:P;c:CdP;d:P", "|WaFb": "a:+1Cb+1Cc+1P;b:P;c:+1Cd+1P;d:+1P",
		"&P&WcFb": "a:CbCcP;b:P;c:CdP;d:+1P", "&P&WbFb": "a:CbCcP;b:P;c:Cd+1P;d:P", "&&CcWbFb": "a:CbCcP;b:P;c:+1CdP;d:P", "&&CcWaFb": "a:CbCcP;b:P;c:CdP;d:P", "&&CcWa!Fb": "a:+1CbCcP;b:P;c:CdP;d:P", "&&CcWcFb": "a:CbCcP;b:P;c:CdP;d:P", "|&CcWa&PFb": "a:+1CbCcP;b:P;c:Cd+1P;d:+1P",
		"!|WaFb": "a:CbCcP;b:+1P;c:CdP;d:P", "!|P!Fb": "a:CbCcP;b:P;c:+1CdP;d:P", "&P|WaFb": "a:CbCc+1P;b:P;c:Cd+1P;d:+1P",
	} {
		checkCopied(t, w, []impl.Aspect{{Kind: "before", Cut: cut, Body: "+1"}}, "a", copies, want)
		checkCopied(t, w, []impl.Aspect{{Kind: "around", Cut: "!!" + cut, Body: "+1K"}}, "a", copies, want)
	}
	// Several watched ones.
	for cut, want := range map[string]string{
		"&FbFc": "a:CbCcP;b:P;c:CdP;d:+1P", "&Fb!Fc": "a:CbCcP;b:P;c:+1Cd+1P;d:P", "&!FbFc": "a:CbCcP;b:+1P;c:CdP;d:P", "|!Fb!Fc": "a:+1Cb+1Cc+1P;b:+1P;c:+1Cd+1P;d:P", "!|FbFc": "a:+1Cb+1Cc+1P;b:P;c:CdP;d:P",
	} {
		checkCopied(t, w, []impl.Aspect{{Kind: "before", Cut: cut, Body: "+1"}}, "a", "a=a[] b=c[c] c=b[b] d=c[bc]", want)
	}
}

// chain returns a program of procedures that call one after the other, and the last one what is given.
func chain(names string, last string) string {
	var parts []string
	for i := range names {
		body := last
		if i+1 < len(names) {
			body = "C" + names[i+1:i+2]
		}
		parts = append(parts, names[i:i+1]+":"+body)
	}
	return strings.Join(parts, ";")
}

// inEach returns the names of copies that are found one after the other, each with its procedure and the same active ones.
func inEach(first int, procs string, active string) string {
	var parts []string
	for i := range procs {
		parts = append(parts, letters[first+i:first+i+1]+"="+procs[i:i+1]+"["+active+"]")
	}
	return strings.Join(parts, " ")
}

func TestTwentySixCopies(t *testing.T) {
	whole, ring := chain(letters, ""), chain(letters, "Ca")
	checkCopied(t, whole, nil, "a", inEach(0, letters, ""), whole)
	checkCopied(t, ring, nil, "a", inEach(0, letters, ""), ring)
	checkCopied(t, whole, nil, "y", "a=y[] b=z[]", "a:Cb;b:")
	for i, name := range letters {
		start, around := string(name), letters[i:]+letters[:i]
		checkCopied(t, ring, nil, start, inEach(0, around, ""), ring)
		checkCopied(t, ring, watching(start), start, inEach(0, around, start), ring)
		checkCopied(t, whole, watching(start), start, inEach(0, letters[i:], start), chain(letters[:26-i], ""))
		// One that begins to be active later makes more copies of those before it.
		for _, other := range []string{letters[(i+1)%26:][:1], letters[(i+25)%26:][:1]} {
			checkNotCopied(t, ring, watching(other), start)
			checkNotCopied(t, ring, append(aspectsOf(t, "around T "), watching(other)...), start)
		}
	}
}

func TestMoreCopiesThanLetters(t *testing.T) {
	// Two copies of each procedure of a chain behind b.
	two := "a:CbCc;b:Cc;" + chain(letters[2:14], "")
	want := "a:CbCc;b:Cd;"
	for i := 2; i < 24; i++ {
		want += letters[i:i+1] + ":C" + letters[i+2:i+3] + ";"
	}
	copies := "a=a[] b=b[b]"
	for i, name := range letters[2:14] {
		copies += " " + letters[2*i+2:2*i+3] + "=" + string(name) + "[] " + letters[2*i+3:2*i+4] + "=" + string(name) + "[b]"
	}
	checkCopied(t, two, watching("b"), "a", copies, want+"y:;z:")
	checkNotCopied(t, "a:CbCc;b:Cc;"+chain(letters[2:15], ""), watching("b"), "a")
	// One more, wherever it is called, also where advice keeps the call out or no run comes.
	for _, w := range []string{
		strings.Replace(two, "b:Cc", "b:CaCc", 1), strings.Replace(two, "b:Cc", "b:?[?[][Cc]][P?[Ca][]]", 1), strings.Replace(two, "n:", "n:?[][Ca]", 1), strings.Replace(two, "h:", "h:*0?[Ca][]", 1),
		strings.Replace(two, "a:", "a:Co", 1) + ";o:", strings.Replace(two, "b:", "b:Co", 1) + ";o:P", strings.Replace(two, "a:", "a:CoCoCo", 1) + ";o:Co",
	} {
		checkNotCopied(t, w, watching("b"), "a")
		checkNotCopied(t, w, append(watching("b"), aspectsOf(t, "around Ca ", "around Co ")...), "a")
		checkNotCopied(t, w, append(watching("b"), aspectsOf(t, "around T ")...), "a")
		if _, ok := impl.CopyWeave(w, nil, "a"); !ok {
			t.Errorf("%q has no copies", w)
		}
	}
	// That a program has more procedures does not matter if they are not called.
	rest := strings.Split(chain(letters, "Ca"), ";")[14:]
	checkCopied(t, two+";"+strings.Join(rest, ";"), watching("b"), "a", copies, want+"y:;z:")
}

// TestAllSetsOfWatchedProcedures has procedures that call each other, of which each set with start is active somewhere.
func TestAllSetsOfWatchedProcedures(t *testing.T) {
	calls := func(names string, each string) string {
		var parts []string
		for _, name := range names {
			parts = append(parts, string(name)+":"+each)
		}
		return strings.Join(parts, ";")
	}
	checkCopied(t, calls("abc", "CaCbCc"), watching("abc"), "a", "a=a[a] b=b[ab] c=c[ac] d=a[ab] e=c[abc] f=a[ac] g=b[abc] h=a[abc]", "a:CaCbCc;b:CdCbCe;c:CfCgCc;d:CdCbCe;e:ChCgCe;f:CfCgCc;g:ChCgCe;h:ChCgCe")
	for _, c := range []struct {
		names, watched string
		want           int
	}{
		{"abcd", "z", 4}, {"abcd", "a", 4}, {"abcd", "b", 7}, {"abcd", "ab", 7}, {"abcd", "bc", 12}, {"abcd", "abc", 12}, {"abcd", "bcd", 20}, {"abcd", "abcd", 20}, {"abcd", letters, 20}, {"abcde", "a", 5}, {"abcde", "d", 9}, {"abcde", "cd", 16}, {"abcde", "abe", 16},
	} {
		each := "C" + strings.Join(strings.Split(c.names, ""), "C")
		copies, ok := impl.CopiesOf(calls(c.names, each), watching(c.watched), "a")
		if len(copies) != c.want || !ok {
			t.Errorf("%d copies of %q if %q are watched, %v, want %d: %q", len(copies), c.names, c.watched, ok, c.want, copiesText(copies))
		}
	}
	checkNotCopied(t, calls("abcde", "CaCbCcCdCe"), watching("bcd"), "a")
	checkNotCopied(t, calls("abcde", "CaCbCcCdCe"), watching("abcde"), "a")
}

// TestMoreActiveThanInRuns has copies to which no run comes, since more procedures are active there than in any run; advice is in them too.
func TestMoreActiveThanInRuns(t *testing.T) {
	w := chain(letters, "P")
	copies := ""
	for i := range letters {
		copies += letters[i:i+1] + "=" + letters[i:i+1] + "[" + letters[:i+1] + "] "
	}
	list := watching(letters)
	checkCopied(t, w, list, "a", strings.TrimSpace(copies), w)
	list[1].Body = "+1"
	checkCopied(t, w, list, "a", strings.TrimSpace(copies), chain(letters, "+1P"))
	list = append(list, aspectsOf(t, "around &TP -2K")...)
	checkCopied(t, w, list, "a", strings.TrimSpace(copies), chain(letters, "+1-2P"))
	checkStack(t, w, list, "a", letters, letters)
}

func TestLimitOfPlacesInCopies(t *testing.T) {
	// What is too long only on the way, in one copy alone, though what comes of it is short.
	way := []impl.Aspect{proceeds(0), proceeds(20), proceeds(21)}
	w := "a:CbCc;b:Cc;c:P"
	for _, c := range [][3]string{
		{"P", "a", ""}, {"P", "c", ""}, {"&PFb", "a", ""}, {"&PFb", "b", ""}, {"&PFb", "c", "a:P"}, {"&P!Fb", "a", ""}, {"&P!Fb", "b", "a:Cb;b:P"}, {"&PFa", "a", ""}, {"&PFa", "b", "a:Cb;b:P"}, {"&P&FbFa", "a", ""}, {"&P&FbFa", "b", "a:Cb;b:P"},
		{"Cb", "a", ""}, {"Cb", "b", "a:Cb;b:P"}, {"&CcFb", "a", ""}, {"&CcFb", "b", ""}, {"&CcFb", "c", "a:P"}, {"&CcWa", "a", ""}, {"&CcWa", "b", "a:Cb;b:P"}, {"&CcFa", "b", "a:Cb;b:P"}, {"Ca", "a", w}, {"&PWb", "a", w}, {"&CbFb", "a", "a:CbCc;b:Cd;c:P;d:P"}, {"&CbFb", "b", "a:Cb;b:P"},
	} {
		for i := range way {
			way[i].Cut = c[0]
		}
		if c[2] == "" {
			checkNotCopied(t, w, way, c[1])
		} else if got, ok := impl.CopyWeave(w, way, c[1]); got != c[2] || !ok {
			t.Errorf("CopyWeave(%q, %q, %q) = %q, %v, want %q", w, way, c[1], got, ok, c[2])
		}
	}
	// It is not where the cut of one of them does not match.
	few := []impl.Aspect{proceeds(0), proceeds(20), {Kind: "around", Cut: "Fb", Body: strings.Repeat("K", 21)}}
	checkCopied(t, "a:PP", few, "a", "a=a[]", "a:")
	checkCopied(t, "a:PP;b:", few, "a", "a=a[]", "a:")
	checkNotCopied(t, "a:PCb;b:P", few, "a")
	// What is too long in its place, or is just not.
	before := impl.Aspect{Kind: "before", Cut: "P", Body: "P"}
	checkNotCopied(t, "a:P", []impl.Aspect{before, proceeds(20), proceeds(20)}, "a")
	checkNotCopied(t, "a:PPP", []impl.Aspect{proceeds(0), before, proceeds(20), proceeds(20)}, "a")
	checkCopied(t, "a:PPP", []impl.Aspect{proceeds(0), proceeds(20), proceeds(20)}, "a", "a=a[]", "a:")
	checkCopied(t, "a:CaPCa", []impl.Aspect{proceeds(0), proceeds(10), proceeds(20)}, "a", "a=a[]", "a:")
	checkNotCopied(t, "a:CaPCa", []impl.Aspect{proceeds(0), proceeds(10), proceeds(21)}, "a")
}

func TestLimitOfProgramsOfCopies(t *testing.T) {
	p := strings.Repeat("P", 400)
	// Copies make it too long, though there is no advice in any place.
	w, copies := "a:CbCc;b:Cc;c:", "a=a[] b=b[b] c=c[] d=c[b]"
	checkCopied(t, w+p[:191], watching("b"), "a", copies, "a:CbCc;b:Cd;c:"+p[:191]+";d:"+p[:191])
	checkNotCopied(t, w+p[:192], watching("b"), "a")
	checkCopied(t, "a:PCbCc;b:Cc;c:"+p[:191], watching("b"), "a", copies, "a:PCbCc;b:Cd;c:"+p[:191]+";d:"+p[:191])
	checkNotCopied(t, "a:PPCbCc;b:Cc;c:"+p[:191], watching("b"), "a")
	checkNotCopied(t, w+p[:386], watching("b"), "a")
	checkCopied(t, w+p[:386], watching("c"), "a", "a=a[] b=b[] c=c[c]", w+p[:386])
	// Advice makes it too long, though no place is.
	list := aspectsOf(t, "before &PFb +1")
	n94, n95 := strings.Repeat("*3", 94), strings.Repeat("*3", 95)
	checkCopied(t, w+"P"+n94, list, "a", copies, "a:CbCc;b:Cd;c:P"+n94+";d:+1P"+n94)
	checkNotCopied(t, w+"P"+n95, list, "a")
	list = append(list, aspectsOf(t, "around &P!Fb -2")...)
	checkCopied(t, w+"P"+n94, list, "a", copies, "a:CbCc;b:Cd;c:-2"+n94+";d:+1P"+n94)
	checkNotCopied(t, w+"P"+n95, list, "a")
	checkCopied(t, w+"P"+n95, list, "b", "a=b[b] b=c[b]", "a:Cb;b:+1P"+n95)
	checkCopied(t, "a:"+p[:199], []impl.Aspect{proceeds(2)}, "a", "a=a[]", "a:"+p[:398])
	checkNotCopied(t, "a:"+p[:200], []impl.Aspect{proceeds(2)}, "a")
	checkCopied(t, "a:"+p[:398], nil, "a", "a=a[]", "a:"+p[:398])
	// What grows is made up for by what goes, in other copies or with procedures that have none.
	gone := aspectsOf(t, "around &PFb ")
	checkCopied(t, w+p[:383], gone, "a", copies, "a:CbCc;b:Cd;c:"+p[:383]+";d:")
	checkNotCopied(t, w+p[:384], gone, "a")
	checkCopied(t, "a:"+p[:100]+";b:"+p[:295], []impl.Aspect{proceeds(3)}, "a", "a=a[]", "a:"+p[:300])
	checkCopied(t, "a:"+p[:100]+";b:"+p[:295], aspectsOf(t, "around P "), "b", "a=b[]", "a:")
}

func TestCopyStack(t *testing.T) {
	w := "a:CbCc;b:Cc;c:P"
	for _, c := range []struct {
		advice []string
		start  string
		stacks map[string]string
	}{
		{[]string{"before &PFb +1"}, "a", map[string]string{"a": "a", "ab": "ab", "abc": "abd", "ac": "ac"}},
		// Whether one procedure calls the next one is not asked, but whether there is such a copy.
		{[]string{"before &PFb +1"}, "a", map[string]string{"aa": "aa", "aca": "aca", "abb": "abb", "acb": "acb", "acbc": "acbd", "abcc": "abdd", "accccc": "accccc", "abbbbb": "abbbbb", "aba": "", "abca": "", "abcba": "", "aab": "aab", "abcbcbc": "abdbdbd"}},
		{nil, "a", map[string]string{"a": "a", "abc": "abc", "acb": "acb", "aaa": "aaa", "abcabc": "abcabc"}},
		{[]string{"before Fa P"}, "a", map[string]string{"a": "a", "abc": "abc", "cab": "", "acba": "acba"}},
		{nil, "b", map[string]string{"b": "a", "bc": "ab", "bb": "aa", "bcb": "aba", "ba": "", "bca": "", "a": "", "c": "", "ab": "", "cb": ""}},
		{[]string{"before &FaFb P"}, "b", map[string]string{"b": "a", "bc": "ab", "ba": ""}},
		{[]string{"before &FbFc P"}, "a", map[string]string{"a": "a", "ab": "ab", "abc": "abd", "ac": "ac", "acb": "", "acc": "acc", "abb": "abb", "abcc": "abdd", "abcb": "", "aa": "aa", "aba": ""}},
		// Where advice keeps calls out too.
		{[]string{"around T ", "before Fb "}, "a", map[string]string{"abc": "abd", "ac": "ac"}},
	} {
		list := aspectsOf(t, c.advice...)
		for stack, want := range c.stacks {
			if want == "" {
				checkNoStack(t, w, list, c.start, stack)
			} else {
				checkStack(t, w, list, c.start, stack, want)
			}
		}
		for _, stack := range []string{"", "d", "z", "ad", "az", "bd", "b{", "abz", "abcz", "A", "aB", "a ", " a", "a\x00", "b\xff", "aä", "ä", "ca"} {
			checkNoStack(t, w, list, c.start, stack)
		}
		for b := range 256 {
			if name := string([]byte{byte(b)}); !strings.Contains("abc", name) {
				for _, stack := range []string{name, c.start + name, name + c.start, c.start + name + c.start, c.start + "c" + name} {
					checkNoStack(t, w, list, c.start, stack)
				}
			}
		}
	}
	// Stacks may be longer than those of runs.
	for _, n := range []int{20, 21, 1000} {
		checkStack(t, "a:Ca", nil, "a", strings.Repeat("a", n), strings.Repeat("a", n))
		checkStack(t, "p:Cq;q:Cp", watching("q"), "p", strings.Repeat("p", n)+strings.Repeat("qp", n), strings.Repeat("a", n)+strings.Repeat("bc", n))
	}
	// Watched procedures that the program does not have, or has no copies of.
	for _, stack := range []string{"z", "az", "aza", "ay", "abz", "ad", "adb"} {
		checkNoStack(t, "a:Cb;b:P;d:Cb", watching("bdz"), "a", stack)
	}
}

func TestWhatCannotBeCopied(t *testing.T) {
	for _, list := range [][]impl.Aspect{nil, aspectsOf(t, "before T +1"), aspectsOf(t, "around Fa "), watching(letters), {{}}} {
		for _, w := range noPrograms {
			checkNotCopied(t, w, list, "a")
			checkNotCopied(t, w, list, "")
		}
		for _, start := range append([]string{"c", "z", "Ca", "a:", "call"}, wrongNames...) {
			checkNotCopied(t, "a:PCb;b:P", list, start)
		}
		checkNotCopied(t, "b:P", list, "a")
	}
	for b := range 256 {
		if start := string([]byte{byte(b)}); !strings.Contains("ab", start) {
			checkNotCopied(t, "a:PCb;b:P", nil, start)
		}
	}
	notValid, notAround := listsThatCannotBePlaced(t)
	for _, list := range slices.Concat(notValid, notAround, [][]impl.Aspect{aspectsOf(t, "before &FaFz "+strings.Repeat("P", 60)), append(watching(letters), slices.Repeat(watching("a"), 4)...)}) {
		for _, w := range []string{"a:", "a:PCa", "a:;b:PCa", "a:?[+1][-1]", "a:P;b:", "a:Cb", "", "a:CbCc;b:Cc;c:P"} {
			checkNotCopied(t, w, list, "a")
			checkNotCopied(t, w, list, "b")
		}
	}
	edge := strings.Repeat("P", 59)
	checkCopied(t, "a:Ca", aspectsOf(t, "before T "+edge, "after T "+edge), "a", "a=a[]", "a:"+edge+"Ca"+edge)
	checkCopied(t, "a:P", slices.Repeat(aspectsOf(t, "before Fa +1"), 5), "a", "a=a[a]", "a:+1+1+1+1+1P")
}

// A copiedText is what is told of a program that is woven by copies.
type copiedText struct {
	copies string
	text   string
	ok     bool
	// names has those of copies, by their procedures and what is active there.
	names map[[2]string]string
	// reason is why there is no program.
	reason string
}

// watchedText returns those of some active procedures that stand behind an F in a cut.
func watchedText(list []impl.Aspect, active string) string {
	watched := ""
	for _, name := range letters {
		isWatched := slices.ContainsFunc(list, func(a impl.Aspect) bool { return strings.Contains(a.Cut, "F"+string(name)) })
		if isWatched && strings.Contains(active, string(name)) {
			watched += string(name)
		}
	}
	return watched
}

// copyText weaves by copies in texts, and finds all copies before it.
func copyText(names string, bodies []string, list []impl.Aspect, start string) copiedText {
	found := [][2]string{{start, watchedText(list, start)}}
	told := copiedText{names: map[[2]string]string{}}
	var parts, woven []string
	for i := 0; i < len(found); i++ {
		body := bodies[strings.Index(names, found[i][0])]
		for k := range body {
			if body[k] == 'C' {
				key := [2]string{body[k+1 : k+2], watchedText(list, found[i][1]+body[k+1:k+2])}
				if !slices.Contains(found, key) {
					found = append(found, key)
				}
			}
		}
	}
	if len(found) > 26 {
		told.reason = "too many"
		return told
	}
	for i, key := range found {
		told.names[key] = letters[i : i+1]
		parts = append(parts, letters[i:i+1]+"="+key[0]+"["+key[1]+"]")
	}
	for _, key := range found {
		body, ok := copyBodyText(bodies[strings.Index(names, key[0])], list, key, told.names)
		if !ok {
			told.reason = "long place"
			return told
		}
		woven = append(woven, body)
	}
	told.text = programText(letters[:len(found)], woven)
	if len(told.text) > 400 {
		return copiedText{reason: "long"}
	}
	told.copies, told.ok = strings.Join(parts, " "), true
	return told
}

func copyBodyText(body string, list []impl.Aspect, key [2]string, names map[[2]string]string) (string, bool) {
	woven := ""
	for k := 0; k < len(body); k++ {
		// The same sets of procedures are active, whatever their order.
		stack := strings.ReplaceAll(key[1], key[0], "") + key[0]
		j, deed := printIn(stack), body[k:k+1]
		if deed == "C" {
			called := body[k+1 : k+2]
			j, deed = callIn(called, stack), "C"+names[[2]string{called, watchedText(list, key[1]+called)}]
			k++
		} else if deed != "P" {
			woven += deed
			continue
		}
		var chosen []impl.Aspect
		for _, a := range list {
			if isIn(a.Cut, j) {
				chosen = append(chosen, a)
			}
		}
		placed, ok := placeText(chosen, deed)
		if !ok {
			return "", false
		}
		woven += placed
	}
	return woven, true
}

// callingBodies returns bodies of procedures most of which call each other.
func callingBodies(r *rand.Rand, names string) []string {
	var bodies []string
	for range names {
		body := ""
		for range 2 + r.Intn(3) {
			part := []string{"P", "C_", "-1C_", "?[-1C_][]", "?[][C_+1]", "?[-2C_P][PC_]"}[r.Intn(6)]
			for strings.Contains(part, "_") {
				part = strings.Replace(part, "_", string(names[r.Intn(len(names))]), 1)
			}
			body += part
		}
		bodies = append(bodies, body)
	}
	return bodies
}

// eachCopying visits random programs with aspects many of which ask what is active.
func eachCopying(r *rand.Rand, times int, visit func(names string, bodies []string, list []impl.Aspect, start string, value int)) {
	eachWeaving(r, times, func(names string, bodies []string, list []impl.Aspect, start string, value int) {
		list = list[:min(len(list), r.Intn(3))]
		if r.Intn(4) == 0 {
			names = letters[:3+r.Intn(4)]
			bodies, start = callingBodies(r, names), names[:1]
			list = append(watching(names[r.Intn(len(names)):]), list...)
		}
		for i := range list {
			if list[i].Body != "" && r.Intn(2) == 0 {
				list[i].Cut = []string{"F", "!F", "&PF", "&!PF", "|WaF"}[r.Intn(5)] + string(names[r.Intn(len(names))])
			}
		}
		if r.Intn(10) == 0 {
			cut := "F" + string(names[r.Intn(len(names))])
			list = append(list, impl.Aspect{Kind: "around", Cut: cut, Body: "K?[KK][K]"}, impl.Aspect{Kind: "around", Cut: cut, Body: strings.Repeat("K", r.Intn(50))})
		}
		visit(names, bodies, list, start, value)
	})
}

func TestCopiesAsTexts(t *testing.T) {
	r := rand.New(rand.NewSource(24))
	found := map[string]int{}
	eachCopying(r, 8000, func(names string, bodies []string, list []impl.Aspect, start string, _ int) {
		w := programText(names, bodies)
		if _, ok := impl.AllAround(list); !ok {
			checkNotCopied(t, w, list, start)
			return
		}
		want := copyText(names, bodies, list, start)
		found[want.reason]++
		if !want.ok {
			checkNotCopied(t, w, list, start)
			return
		}
		checkCopied(t, w, list, start, want.copies, want.text)
		if len(want.names) > len(names) {
			found["more than procedures"]++
		}
		for range 5 {
			checkRandomStack(t, r, w, list, start, names, want.names)
		}
	})
	for _, word := range []string{"", "too many", "long place", "long", "more than procedures"} {
		if found[word] < 20 {
			t.Errorf("too few of some kind: %v", found)
		}
	}
}

func checkRandomStack(t *testing.T, r *rand.Rand, w string, list []impl.Aspect, start string, names string, copies map[[2]string]string) {
	t.Helper()
	stack, active, want := "", "", ""
	for next := start; len(stack) < 1+r.Intn(6); next = string(names[r.Intn(len(names))]) {
		stack, active = stack+next, watchedText(list, active+next)
		name, isCopy := copies[[2]string{next, active}]
		if !isCopy {
			checkNoStack(t, w, list, start, stack)
			return
		}
		want += name
	}
	checkStack(t, w, list, start, stack, want)
}

// TestProgramsOfCopiesRunAsWovenOnes runs programs of copies, and the programs woven while they run: the outcomes are the same, also their steps.
func TestProgramsOfCopiesRunAsWovenOnes(t *testing.T) {
	r := rand.New(rand.NewSource(25))
	found := map[string]int{}
	eachCopying(r, 12000, func(names string, bodies []string, list []impl.Aspect, start string, value int) {
		w := programText(names, bodies)
		woven, ok := impl.CopyWeave(w, list, start)
		if !ok {
			return
		}
		want, ran := impl.RunWoven(w, list, start, value)
		got, isProgram := impl.RunProgram(woven, "a", value)
		if !ran || !isProgram || impl.FormatOutcome(got) != impl.FormatOutcome(want) {
			t.Fatalf("%q, %q, %q, %d: %q runs as %v, woven %v", w, list, start, value, woven, got, want)
		}
		found[got.End]++
		if !impl.CanInlineFrom(w, start, list) {
			found["open"]++
		}
	})
	for _, word := range []string{"done", "long", "deep", "open"} {
		if found[word] < 100 {
			t.Errorf("too few of some kind: %v", found)
		}
	}
}

// TestJoinPointsOfCopies watches procedures without advice: the program of copies has the same join points, at which the copies of what is active there are.
func TestJoinPointsOfCopies(t *testing.T) {
	r := rand.New(rand.NewSource(26))
	checked, copied := 0, 0
	eachWeaving(r, 3000, func(names string, bodies []string, _ []impl.Aspect, start string, value int) {
		w, list := programText(names, bodies), watching(string(names[r.Intn(len(names))]))
		woven, ok := impl.CopyWeave(w, list, start)
		if !ok {
			return
		}
		points, _ := impl.JoinPointsOf(w, start, value)
		for i, j := range points {
			name := ""
			if j.Kind == "call" {
				called, isCopy := impl.CopyStack(w, list, start, j.Stack+j.Name)
				if !isCopy {
					t.Fatalf("%q, %q, %q: no copies for %q", w, list, start, j.Stack+j.Name)
				}
				name = called[len(called)-1:]
			}
			stack, isCopy := impl.CopyStack(w, list, start, j.Stack)
			if !isCopy {
				t.Fatalf("%q, %q, %q: no copies for %q", w, list, start, j.Stack)
			}
			points[i] = impl.JoinPoint{Kind: j.Kind, Name: name, Stack: stack}
			checked++
		}
		if got, ran := impl.JoinPointsOf(woven, "a", value); !ran || !slices.Equal(got, points) {
			t.Fatalf("%q, %q, %q, %d: %q has other join points", w, list, start, value, woven)
		}
		if len(impl.ProcsOf(woven)) > len(names) {
			copied++
		}
	})
	if checked < 10000 || copied < 20 {
		t.Errorf("just %d join points, and %d programs with more copies than procedures", checked, copied)
	}
}

// TestCopyingIsTheSameAgain weaves in several goroutines at once. The arguments stay as they are, beyond their length too, and results share no memory.
func TestCopyingIsTheSameAgain(t *testing.T) {
	w := "a:CbCcP;b:?[Cc][P]P;c:PCd;d:P;e:PCa"
	room := aspectsOf(t, "around &PFb PKP", "before Cc +1", "around T KK", "before N ", "before T ")
	list, before := room[:2], slices.Clone(room)
	copies := "a=a[] b=b[b] c=c[] d=c[b] e=d[] f=d[b]"
	want := "a:Cb+1CcP;b:?[+1Cd][PPP]PPP;c:PCe;d:PPPCf;e:P;f:PPP"
	var running sync.WaitGroup
	for range 20 {
		running.Add(1)
		go func() {
			defer running.Done()
			for range 50 {
				checkCopied(t, w, list, "a", copies, want)
				checkStack(t, w, list, "a", "abcd", "abdf")
				got, _ := impl.CopiesOf(w, list, "a")
				clear(got[:cap(got)])
			}
		}()
	}
	running.Wait()
	if !slices.Equal(room, before) {
		t.Errorf("the arguments became %q", room)
	}
}
