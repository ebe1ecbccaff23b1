package flow_test

import (
	"regexp"
	"strings"
	"testing"

	"flow/flow"
)

// transitions is n times the same transition, each with its `;`.
func transitions(n int, one string) string {
	return strings.Repeat(";"+one, n)
}

type checkCase struct {
	net   string
	errno flow.Errno
	place int
}

func runCheckCases(t *testing.T, cases []checkCase) {
	t.Helper()
	for _, c := range cases {
		errno, place := flow.Check(c.net)
		if errno != c.errno || place != c.place {
			t.Errorf("Check(%.80q) = %d, %d, want %d, %d", c.net, errno, place, c.errno, c.place)
		}
	}
}

func TestP3Nets(t *testing.T) {
	runCheckCases(t, []checkCase{
		{"AB", flow.OK, 0},
		{"BA", flow.OK, 0},
		{"PO", flow.OK, 0},
		{"AD;aA>BC;bB>E;-CE>D", flow.OK, 0},
		{"AB;-A>B", flow.OK, 0},
		{"AB;aA>B;zA>B", flow.OK, 0},
		{"AB;aA>BCDEFGHIJKLMNOP", flow.OK, 0},
		{"AB;aACDEFGHIJKLMNOP>B", flow.OK, 0},
		{"GH;aG>P;bP>H", flow.OK, 0},
		{"AB;aC>C", flow.OK, 0},
		{"AB;aCD>CD", flow.OK, 0},
		{"AB" + transitions(16, "aA>B"), flow.OK, 0},
	})
}

func TestP3BytesThatCannotStand(t *testing.T) {
	runCheckCases(t, []checkCase{
		// the start
		{"aB", flow.ErrNet, 0}, {";B", flow.ErrNet, 0}, {"QB", flow.ErrNet, 0},
		{"@B", flow.ErrNet, 0}, {" AB", flow.ErrNet, 0}, {"\x00B", flow.ErrNet, 0},
		// the end
		{"Aa", flow.ErrNet, 1}, {"A;", flow.ErrNet, 1}, {"AQ", flow.ErrNet, 1},
		{"AA", flow.ErrNet, 1}, {"PP;aP>A", flow.ErrNet, 1}, {"A@", flow.ErrNet, 1},
		// the first `;`
		{"ABC", flow.ErrNet, 2}, {"ABa", flow.ErrNet, 2}, {"AB>", flow.ErrNet, 2}, {"AB\n", flow.ErrNet, 2},
		// a label
		{"AB;AA>B", flow.ErrNet, 3}, {"AB;0A>B", flow.ErrNet, 3}, {"AB;;", flow.ErrNet, 3}, {"AB;>", flow.ErrNet, 3},
		{"AB;`A>B", flow.ErrNet, 3}, {"AB;{A>B", flow.ErrNet, 3}, {"AB;_A>B", flow.ErrNet, 3}, {"AB;\u00e9A>B", flow.ErrNet, 3},
		// places that are taken from
		{"AB;a>B", flow.ErrNet, 4}, {"AB;a;B", flow.ErrNet, 4}, {"AB;aa>B", flow.ErrNet, 4}, {"AB;a->B", flow.ErrNet, 4},
		{"AB;aQ>B", flow.ErrNet, 4}, {"AB;a@>B", flow.ErrNet, 4}, {"AB;aAA>B", flow.ErrNet, 5}, {"AB;aCA>B", flow.ErrNet, 5},
		{"AB;aACDC>B", flow.ErrNet, 7}, {"AB;aAQ>B", flow.ErrNet, 5}, {"AB;aP\xff>B", flow.ErrNet, 5},
		// `>`
		{"AB;aA;bA>B", flow.ErrNet, 5}, {"AB;aA<B", flow.ErrNet, 5}, {"AB;aA-B", flow.ErrNet, 5},
		// places that are put to
		{"AB;aA>;", flow.ErrNet, 6}, {"AB;aA>>B", flow.ErrNet, 6}, {"AB;aA>b", flow.ErrNet, 6}, {"AB;aA>Q", flow.ErrNet, 6},
		{"AB;aA>BB", flow.ErrNet, 7}, {"AB;aA>CB", flow.ErrNet, 7}, {"AB;aA>BDC", flow.ErrNet, 8}, {"AB;aA>B>C", flow.ErrNet, 7},
		// behind a transition
		{"AB;aA>B ", flow.ErrNet, 7}, {"AB;aA>Bb", flow.ErrNet, 7}, {"AB;aA>B-", flow.ErrNet, 7},
		{"AB;aA>B,bA>B", flow.ErrNet, 7}, {"AB;aA>B;bA>B;c!>B", flow.ErrNet, 14}, {"AB;aA>B\u00e9", flow.ErrNet, 7},
	})
}

func TestP3EndsTooEarly(t *testing.T) {
	whole := "AB;aAC>BD;-D>C"
	endings := map[int]bool{2: true, 8: true, 9: true, 14: true}
	for n := 0; n <= len(whole); n++ {
		want := checkCase{whole[:n], flow.ErrNet, n}
		if endings[n] {
			want = checkCase{whole[:n], flow.OK, 0}
		}
		runCheckCases(t, []checkCase{want})
	}
	runCheckCases(t, []checkCase{
		{"AB" + transitions(15, "aA>B") + ";", flow.ErrNet, 78},
		{"AB" + transitions(15, "aA>B") + ";aA>", flow.ErrNet, 81},
	})
}

func TestP3TransitionTooMany(t *testing.T) {
	full := "AB" + transitions(16, "aA>B")
	wrong := "AB" + transitions(16, "aB>A")
	runCheckCases(t, []checkCase{
		{full + ";aA>B", flow.ErrNet, 82},
		{full + ";", flow.ErrNet, 82},
		{full + ";!", flow.ErrNet, 82},
		{full + ";aA>B;aA>B", flow.ErrNet, 82},
		{full + "!", flow.ErrNet, 82},
		{full + "CC;", flow.ErrNet, 83},
		{wrong + ";aA>B", flow.ErrNet, 82},
		{"AB" + transitions(15, "aA>B") + ";aA>C!", flow.ErrNet, 82},
	})
}

func TestP3Shape(t *testing.T) {
	runCheckCases(t, []checkCase{
		{"AB;aB>C", flow.ErrShape, 4},
		{"AB;aAB>C", flow.ErrShape, 5},
		{"AB;aC>A", flow.ErrShape, 6},
		{"AB;aA>A", flow.ErrShape, 6},
		{"CD;aC>ABC", flow.ErrShape, 8},
		{"CD;aABCD>E", flow.ErrShape, 7},
		{"AB;aB>A", flow.ErrShape, 4},
		{"BA;aAB>AB", flow.ErrShape, 4},
		{"AB;aC>A;bB>C", flow.ErrShape, 6},
		{"AB;aA>B;bC>D;cB>C", flow.ErrShape, 14},
		{"AB;aA>B;bC>D;cC>AB", flow.ErrShape, 16},
		{"AB;-B>C", flow.ErrShape, 4},
		{"AB" + transitions(15, "aA>B") + ";aA>A", flow.ErrShape, 81},
		// a text that is no net is none, whatever its transitions do ahead of that
		{"AB;aB>A;", flow.ErrNet, 8},
		{"AB;aB>A!", flow.ErrNet, 7},
		{"AB;aB", flow.ErrNet, 5},
		{"AB;aB>C;bC>CC", flow.ErrNet, 12},
	})
}

var (
	netForm  = regexp.MustCompile(`^[A-P][A-P](;[a-z-][A-P]+>[A-P]+){0,16}$`)
	letterOf = regexp.MustCompile(`[A-P]+`)
)

// isForm tells whether a text is a net, but for where transitions put and take.
func isForm(text string) bool {
	if !netForm.MatchString(text) || text[0] == text[1] {
		return false
	}
	for _, places := range letterOf.FindAllString(text[2:], -1) {
		for i := 1; i < len(places); i++ {
			if places[i] <= places[i-1] {
				return false
			}
		}
	}
	return true
}

// canGoOn tells whether a text is the beginning of some net.
func canGoOn(text string) bool {
	for _, rest := range []string{"", "A", "B", "AB", ">A", "A>A", "aA>A"} {
		if isForm(text + rest) {
			return true
		}
	}
	return false
}

// plainCheck is P3 word by word: the place is where the text stops being the
// beginning of a net.
func plainCheck(text string) (flow.Errno, int) {
	if !isForm(text) {
		for n := 1; n <= len(text); n++ {
			if !canGoOn(text[:n]) {
				return flow.ErrNet, n - 1
			}
		}
		return flow.ErrNet, len(text)
	}
	for i := 2; i < len(text); i++ {
		puts := strings.LastIndexByte(text[:i], '>') > strings.LastIndexByte(text[:i], ';')
		if puts && text[i] == text[0] || !puts && text[i] == text[1] {
			return flow.ErrShape, i
		}
	}
	return flow.OK, 0
}

func comparePlainCheck(t *testing.T, text string) {
	t.Helper()
	errno, place := flow.Check(text)
	wantErrno, wantPlace := plainCheck(text)
	if errno != wantErrno || place != wantPlace {
		t.Errorf("Check(%q) = %d, %d, want %d, %d", text, errno, place, wantErrno, wantPlace)
	}
}

func TestP3EveryOneByteChange(t *testing.T) {
	nets := []string{"AB", "AD;aA>BC;bB>E;-CE>D", "PA;-P>A;zBCP>OA", "AB;aB>A;bABC>ABC"}
	for _, net := range nets {
		for at := 0; at <= len(net); at++ {
			for b := 0; b < 256; b++ {
				put := string([]byte{byte(b)})
				comparePlainCheck(t, net[:at]+put+net[at:])
				if at < len(net) {
					comparePlainCheck(t, net[:at]+put+net[at+1:])
				}
			}
			if at < len(net) {
				comparePlainCheck(t, net[:at]+net[at+1:])
			}
		}
	}
}

func TestP3EveryShortText(t *testing.T) {
	const signs = "ABP;a>-q"
	var walk func(text string, left int)
	walk = func(text string, left int) {
		comparePlainCheck(t, text)
		if left == 0 {
			return
		}
		for i := 0; i < len(signs); i++ {
			walk(text+signs[i:i+1], left-1)
		}
	}
	walk("", 4)
	walk("AB;a", 4)
	walk("AB;aA>", 4)
	walk("AB;aA>B", 4)
}
