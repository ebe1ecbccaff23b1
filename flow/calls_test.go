package flow_test

import (
	"strings"
	"testing"

	"flow/flow"
)

// netOf is a net of exactly n bytes, for n from 7 on.
func netOf(t *testing.T, n int) string {
	t.Helper()
	net := "AB"
	for n-len(net) >= 40 {
		net += ";aC>CDEFGHIJKLMNOP"
	}
	for n-len(net) >= 10 {
		net += ";aC>C"
	}
	net += ";aC>CDEFGH"[:n-len(net)]
	if errno, place := flow.Check(net); len(net) != n || n <= 160 && errno != flow.OK {
		t.Fatalf("%q of %d bytes is no net: %d, %d", net, len(net), errno, place)
	}
	return net
}

func TestNamesAndNumbers(t *testing.T) {
	errnos := []flow.Errno{flow.OK, flow.ErrLong, flow.ErrNet, flow.ErrShape, flow.ErrSign, flow.ErrIdle,
		flow.ErrSpill, flow.ErrNever, flow.ErrWord, flow.ErrProc, flow.ErrLarge}
	for number, errno := range errnos {
		if int(errno) != number {
			t.Errorf("error %d has the number %d", number, errno)
		}
	}
	verdicts := []int{flow.Sound, flow.Spills, flow.Improper, flow.Stuck, flow.Dead}
	for i, verdict := range verdicts {
		if verdict != i+1 {
			t.Errorf("verdict %d has the number %d", i+1, verdict)
		}
	}
}

func TestSignatures(t *testing.T) {
	var _ func(string) (flow.Errno, int) = flow.Check
	var _ func(string, string) (string, flow.Errno, int) = flow.Fire
	var _ func(string) (int, string, flow.Errno) = flow.Judge
	var _ func(string, string) (string, flow.Errno) = flow.Finish
	var _ func(string, string) (string, flow.Errno) = flow.Enable
	var _ func(string, string) (bool, flow.Errno) = flow.Plays
	var _ func(string, string) (bool, flow.Errno, int) = flow.Accepts
	var _ func(string) (string, flow.Errno, int) = flow.Compile
}

func TestP1LongNet(t *testing.T) {
	far := strings.Repeat("x", 10_000_000)
	runCheckCases(t, []checkCase{
		{netOf(t, 159), flow.OK, 0},
		{netOf(t, 160), flow.OK, 0},
		{netOf(t, 161), flow.ErrLong, 0},
		{"AB;aA>A" + netOf(t, 153)[2:], flow.ErrShape, 6},
		{"AB;aA>A" + netOf(t, 160)[2:], flow.ErrLong, 0},
		{far[:160], flow.ErrNet, 0},
		{far[:161], flow.ErrLong, 0},
		{far, flow.ErrLong, 0},
		{"AB" + far, flow.ErrLong, 0},
		{strings.Repeat("\x00", 161), flow.ErrLong, 0},
		{strings.Repeat("\u00e9", 80), flow.ErrNet, 0},
		{strings.Repeat("\u00e9", 81), flow.ErrLong, 0},
	})
}

func TestP1LongAheadOfAllElse(t *testing.T) {
	far := strings.Repeat("1", 10_000_000)
	runFireCases(t, []fireCase{
		{"AB", far[:65536], "", flow.ErrSign, 0},
		{"AB", far[:65537], "", flow.ErrLong, 0},
		{"AB", far, "", flow.ErrLong, 0},
		{netOf(t, 160), "", "A", flow.OK, 0},
		{netOf(t, 161), "", "", flow.ErrLong, 0},
		{netOf(t, 161), "!", "", flow.ErrLong, 0},
		{far, far, "", flow.ErrLong, 0},
		// of any argument, ahead of every error of another
		{"", far[:65537], "", flow.ErrLong, 0},
		{"AB;aA>B!", far[:65537], "", flow.ErrLong, 0},
		{"AB;aA>A", far[:65537], "", flow.ErrLong, 0},
		{"AB;aA>A", far[:65536], "", flow.ErrShape, 6},
		{"AB;aA>", far[:65536], "", flow.ErrNet, 6},
	})
}

var oddTexts = []string{
	"", "\x00", "\xff\xfe", " ", "A", "AB", "AA", "AB;", "AB;a", "AB;aA", "AB;aA>", "AB;aA>B", "AB;aA>A", "AB;aB>C",
	example, example + ";", "PA;-P>A", "AD;aA>BC;bB>D;cC>D", "0", "1", "01", "012", "0123", "F", "G", "f", "a", "abc",
	".ab", "+ab", "&ab", "*a", "*", ".", "\u00e9", ";;;;", ">>>>", strings.Repeat("A", 160), strings.Repeat("A", 161),
	strings.Repeat("0", 65536), strings.Repeat("0", 65537), strings.Repeat("a", 9), strings.Repeat("*", 25),
	strings.Repeat("*", 100000),
}

func TestP1NoCallPanics(t *testing.T) {
	for _, a := range oddTexts {
		flow.Check(a)
		flow.Judge(a)
		flow.Compile(a)
		for _, b := range oddTexts {
			flow.Fire(a, b)
			flow.Finish(a, b)
			flow.Enable(a, b)
			flow.Plays(a, b)
			flow.Accepts(a, b)
		}
	}
}

func TestP1OtherResultsBesideAnError(t *testing.T) {
	for _, a := range oddTexts {
		checkErrno, checkPlace := flow.Check(a)
		if (checkErrno == flow.OK || checkErrno == flow.ErrLong) && checkPlace != 0 {
			t.Errorf("Check(%.60q) = %d, %d, want the place 0", a, checkErrno, checkPlace)
		}
		for _, b := range oddTexts {
			marking, errno, place := flow.Fire(a, b)
			if (errno == flow.OK) != (marking != "") {
				t.Errorf("Fire(%.60q, %.60q) = %q beside %d", a, b, marking, errno)
			}
			if (errno == flow.OK || errno == flow.ErrLong) && place != 0 {
				t.Errorf("Fire(%.60q, %.60q) = %d, %d, want the place 0", a, b, errno, place)
			}
			if errno != flow.ErrLong && checkErrno != flow.OK && (errno != checkErrno || place != checkPlace) {
				t.Errorf("Fire(%.60q, %.60q) = %d, %d, but Check answers %d, %d", a, b, errno, place, checkErrno, checkPlace)
			}
		}
	}
}

func TestP2SameAnswerAgain(t *testing.T) {
	checks := make([]checkCase, len(oddTexts))
	var fires []fireCase
	for i, a := range oddTexts {
		errno, place := flow.Check(a)
		checks[i] = checkCase{a, errno, place}
		for _, b := range oddTexts {
			marking, errno, place := flow.Fire(a, b)
			fires = append(fires, fireCase{a, b, marking, errno, place})
		}
	}
	for range 2 {
		// backwards, so that each call now stands behind others than before
		for i := len(fires) - 1; i >= 0; i-- {
			runFireCases(t, fires[i:i+1])
			runCheckCases(t, checks[i%len(checks):i%len(checks)+1])
			runFireCases(t, fires[i:i+1])
		}
	}
}
