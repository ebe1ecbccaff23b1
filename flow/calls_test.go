package flow_test

import (
	"fmt"
	"slices"
	"strings"
	"testing"

	"flow/flow"
)

// netOf is a net of exactly n bytes, for n from 7 on.
func netOf(t *testing.T, n int) string {
	t.Helper()
	net := "AB"
	for n-len(net) >= 40 {
		net += ";aC>CDEFGHIJKLMNOP"
	}
	for n-len(net) >= 10 {
		net += ";aC>C"
	}
	net += ";aC>CDEFGH"[:n-len(net)]
	if errno, place := flow.Check(net); len(net) != n || n <= 160 && errno != flow.OK {
		t.Fatalf("%q of %d bytes is no net: %d, %d", net, len(net), errno, place)
	}
	return net
}

func TestNamesAndNumbers(t *testing.T) {
	errnos := []flow.Errno{flow.OK, flow.ErrLong, flow.ErrNet, flow.ErrShape, flow.ErrSign, flow.ErrIdle,
		flow.ErrSpill, flow.ErrNever, flow.ErrWord, flow.ErrProc, flow.ErrLarge}
	for number, errno := range errnos {
		if int(errno) != number {
			t.Errorf("error %d has the number %d", number, errno)
		}
	}
	verdicts := []int{flow.Sound, flow.Spills, flow.Improper, flow.Stuck, flow.Dead}
	for i, verdict := range verdicts {
		if verdict != i+1 {
			t.Errorf("verdict %d has the number %d", i+1, verdict)
		}
	}
}

func TestSignatures(t *testing.T) {
	var _ func(string) (flow.Errno, int) = flow.Check
	var _ func(string, string) (string, flow.Errno, int) = flow.Fire
	var _ func(string) (int, string, flow.Errno) = flow.Judge
	var _ func(string, string) (string, flow.Errno) = flow.Finish
	var _ func(string, string) (string, flow.Errno) = flow.Enable
	var _ func(string, string) (bool, flow.Errno) = flow.Plays
	var _ func(string, string) (bool, flow.Errno, int) = flow.Accepts
	var _ func(string) (string, flow.Errno, int) = flow.Compile
}

func TestP1LongNet(t *testing.T) {
	far := strings.Repeat("x", 10_000_000)
	runCheckCases(t, []checkCase{
		{netOf(t, 159), flow.OK, 0},
		{netOf(t, 160), flow.OK, 0},
		{netOf(t, 161), flow.ErrLong, 0},
		{"AB;aA>A" + netOf(t, 153)[2:], flow.ErrShape, 6},
		{"AB;aA>A" + netOf(t, 160)[2:], flow.ErrLong, 0},
		{far[:160], flow.ErrNet, 0},
		{far[:161], flow.ErrLong, 0},
		{far, flow.ErrLong, 0},
		{"AB" + far, flow.ErrLong, 0},
		{strings.Repeat("\x00", 161), flow.ErrLong, 0},
		{strings.Repeat("\u00e9", 80), flow.ErrNet, 0},
		{strings.Repeat("\u00e9", 81), flow.ErrLong, 0},
	})
}

func TestP1LongAheadOfAllElse(t *testing.T) {
	far := strings.Repeat("1", 10_000_000)
	runFireCases(t, []fireCase{
		{"AB", far[:65536], "", flow.ErrSign, 0},
		{"AB", far[:65537], "", flow.ErrLong, 0},
		{"AB", far, "", flow.ErrLong, 0},
		{netOf(t, 160), "", "A", flow.OK, 0},
		{netOf(t, 161), "", "", flow.ErrLong, 0},
		{netOf(t, 161), "!", "", flow.ErrLong, 0},
		{far, far, "", flow.ErrLong, 0},
		// of any argument, ahead of every error of another
		{"", far[:65537], "", flow.ErrLong, 0},
		{"AB;aA>B!", far[:65537], "", flow.ErrLong, 0},
		{"AB;aA>A", far[:65537], "", flow.ErrLong, 0},
		{"AB;aA>A", far[:65536], "", flow.ErrShape, 6},
		{"AB;aA>", far[:65536], "", flow.ErrNet, 6},
	})
}

var oddTexts = []string{
	"", "\x00", "\xff\xfe", " ", "A", "AB", "AA", "AB;", "AB;a", "AB;aA", "AB;aA>", "AB;aA>B", "AB;aA>A", "AB;aB>C",
	example, example + ";", "AB;aA>CD;bC>D;cD>E;dE>B", "AB;aA>B;bA>C;cC>D", "AB;aA>B;bC>B", "AB;aA>BC;bC>D", "PA;-P>A", "AD;aA>BC;bB>D;cC>D", "0", "1", "01", "012", "0123", "F", "G", "f", "a", "abc",
	".ab", "+ab", "&ab", "*a", "*", ".", "b", "ba", "a-", "-", ".a", "*-", "*******a", "********a", "AB;-A>B", "\u00e9", ";;;;", ">>>>", strings.Repeat("A", 160), strings.Repeat("A", 161),
	strings.Repeat("0", 65536), strings.Repeat("0", 65537), strings.Repeat("a", 9), strings.Repeat("*", 25),
	strings.Repeat("*", 100000),
}

func TestP1NoCallPanics(t *testing.T) {
	for _, a := range oddTexts {
		flow.Check(a)
		flow.Judge(a)
		flow.Compile(a)
		for _, b := range oddTexts {
			flow.Fire(a, b)
			flow.Finish(a, b)
			flow.Enable(a, b)
			flow.Plays(a, b)
			flow.Accepts(a, b)
		}
	}
}

func TestP1OtherResultsBesideAnError(t *testing.T) {
	for _, a := range oddTexts {
		checkErrno, checkPlace := flow.Check(a)
		if (checkErrno == flow.OK || checkErrno == flow.ErrLong) && checkPlace != 0 {
			t.Errorf("Check(%.60q) = %d, %d, want the place 0", a, checkErrno, checkPlace)
		}
		verdict, text, errno := flow.Judge(a)
		if errno != checkErrno || errno != flow.OK && (verdict != 0 || text != "") {
			t.Errorf("Judge(%.60q) = %d, %q, %d, but Check answers %d", a, verdict, text, errno, checkErrno)
		}
		net, errno, place := flow.Compile(a)
		if (errno == flow.OK) != (net != "") || errno != flow.ErrProc && place != 0 {
			t.Errorf("Compile(%.60q) = %q, %d, %d", a, net, errno, place)
		}
		for _, b := range oddTexts {
			checkFireBesideAnError(t, a, b)
			checkSearchesBesideAnError(t, a, b)
			checkWordsBesideAnError(t, a, b)
		}
	}
}

func checkFireBesideAnError(t *testing.T, net string, run string) {
	t.Helper()
	checkErrno, checkPlace := flow.Check(net)
	marking, errno, place := flow.Fire(net, run)
	if (errno == flow.OK) != (marking != "") {
		t.Errorf("Fire(%.60q, %.60q) = %q beside %d", net, run, marking, errno)
	}
	if (errno == flow.OK || errno == flow.ErrLong) && place != 0 {
		t.Errorf("Fire(%.60q, %.60q) = %d, %d, want the place 0", net, run, errno, place)
	}
	if errno != flow.ErrLong && checkErrno != flow.OK && (errno != checkErrno || place != checkPlace) {
		t.Errorf("Fire(%.60q, %.60q) = %d, %d, but Check answers %d, %d", net, run, errno, place, checkErrno, checkPlace)
	}
}

func checkSearchesBesideAnError(t *testing.T, net string, run string) {
	t.Helper()
	_, fireErrno, _ := flow.Fire(net, run)
	text, errno := flow.Finish(net, run)
	if errno != fireErrno && (fireErrno != flow.OK || errno != flow.ErrNever) || errno != flow.OK && text != "" {
		t.Errorf("Finish(%.60q, %.60q) = %q, %d, but Fire answers %d", net, run, text, errno, fireErrno)
	}
	text, errno = flow.Enable(net, run)
	if (errno == flow.OK) != (text != "") {
		t.Errorf("Enable(%.60q, %.60q) = %q beside %d", net, run, text, errno)
	}
}

// checkWordsBesideAnError takes a text for a net as well as for a process.
func checkWordsBesideAnError(t *testing.T, text string, word string) {
	t.Helper()
	checkErrno, _ := flow.Check(text)
	plays, errno := flow.Plays(text, word)
	if errno != flow.OK && plays {
		t.Errorf("Plays(%.60q, %.60q) = %v beside %d", text, word, plays, errno)
	}
	if errno != flow.ErrLong && checkErrno != flow.OK && errno != checkErrno {
		t.Errorf("Plays(%.60q, %.60q) = %d, but Check answers %d", text, word, errno, checkErrno)
	}
	_, compileErrno, compilePlace := flow.Compile(text)
	accepts, errno, place := flow.Accepts(text, word)
	if errno != flow.OK && accepts || errno != flow.ErrProc && errno != flow.ErrWord && place != 0 {
		t.Errorf("Accepts(%.60q, %.60q) = %v beside %d, %d", text, word, accepts, errno, place)
	}
	if errno != flow.ErrLong && compileErrno != flow.OK && (errno != compileErrno || place != compilePlace) {
		t.Errorf("Accepts(%.60q, %.60q) = %d, %d, but Compile answers %d, %d",
			text, word, errno, place, compileErrno, compilePlace)
	}
}

// answersAt is what all calls answer at two texts, written as one.
func answersAt(a string, b string) string {
	errno, place := flow.Check(a)
	marking, fireErrno, step := flow.Fire(a, b)
	verdict, why, judgeErrno := flow.Judge(a)
	way, finishErrno := flow.Finish(a, b)
	run, enableErrno := flow.Enable(a, b)
	plays, playsErrno := flow.Plays(a, b)
	accepts, acceptsErrno, acceptsPlace := flow.Accepts(a, b)
	net, compileErrno, compilePlace := flow.Compile(a)
	return fmt.Sprint(errno, place, "|", marking, fireErrno, step, "|", verdict, why, judgeErrno, "|",
		way, finishErrno, "|", run, enableErrno, "|", plays, playsErrno, "|",
		accepts, acceptsErrno, acceptsPlace, "|", net, compileErrno, compilePlace)
}

func TestP2SameAnswerAgain(t *testing.T) {
	answers := map[[2]string]string{}
	for _, a := range oddTexts {
		for _, b := range oddTexts {
			answers[[2]string{a, b}] = answersAt(a, b)
		}
	}
	for range 2 {
		// the other way round, so that each call now stands behind others than before
		for _, b := range slices.Backward(oddTexts) {
			for _, a := range slices.Backward(oddTexts) {
				if again := answersAt(a, b); again != answers[[2]string{a, b}] {
					t.Errorf("at %.60q and %.60q: %s, but before: %s", a, b, again, answers[[2]string{a, b}])
				}
			}
		}
	}
}
