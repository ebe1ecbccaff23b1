package flow_test

import (
	"sort"
	"strings"
	"testing"

	"flow/flow"
)

type fireCase struct {
	net     string
	run     string
	marking string
	errno   flow.Errno
	place   int
}

func runFireCases(t *testing.T, cases []fireCase) {
	t.Helper()
	for _, c := range cases {
		marking, errno, place := flow.Fire(c.net, c.run)
		if marking != c.marking || errno != c.errno || place != c.place {
			t.Errorf("Fire(%.80q, %.80q) = %q, %d, %d, want %q, %d, %d",
				c.net, c.run, marking, errno, place, c.marking, c.errno, c.place)
		}
	}
}

const example = "AD;aA>BC;bB>E;-CE>D"

func TestP4Markings(t *testing.T) {
	runFireCases(t, []fireCase{
		{"AB", "", "A", flow.OK, 0},
		{"PA", "", "P", flow.OK, 0},
		{example, "", "A", flow.OK, 0},
		{example, "0", "BC", flow.OK, 0},
		{example, "01", "CE", flow.OK, 0},
		{example, "012", "D", flow.OK, 0},
		{"PA;-P>ABCDEFGHIJKLMNO", "0", "ABCDEFGHIJKLMNO", flow.OK, 0},
		{"HA;aH>BP;bB>O;cP>C", "012", "CO", flow.OK, 0},
		// a place that is taken from and put to keeps its token
		{"AB;aA>CD;bC>C;cCD>BCD", "0111", "CD", flow.OK, 0},
		{"AB;aA>CD;bC>C;cCD>BCD", "02", "BCD", flow.OK, 0},
		// the run may go on when the end holds a token
		{"AB;aA>BC;bC>C", "0111", "BC", flow.OK, 0},
	})
}

func TestP4ErrorsOfCheck(t *testing.T) {
	runFireCases(t, []fireCase{
		{"", "", "", flow.ErrNet, 0},
		{"A", "0", "", flow.ErrNet, 1},
		{"AB;aA>", "", "", flow.ErrNet, 6},
		{"AB;aA>B!", "!", "", flow.ErrNet, 7},
		{"AB" + transitions(17, "aA>B"), "0", "", flow.ErrNet, 82},
		{"AB;aA>A", "0", "", flow.ErrShape, 6},
		{"AB;aA>C;bB>C", "9", "", flow.ErrShape, 9},
	})
}

func TestP4Sign(t *testing.T) {
	ten := "AB;-A>C" + transitions(9, "aC>C")
	eleven := ten + ";bC>D"
	sixteen := "AB;-A>C" + transitions(14, "aC>C") + ";bC>D"
	runFireCases(t, []fireCase{
		{"AB", "0", "", flow.ErrSign, 0},
		{example, "3", "", flow.ErrSign, 0},
		{example, "0123", "", flow.ErrSign, 3},
		{example, "0\x00", "", flow.ErrSign, 1},
		{example, "01 ", "", flow.ErrSign, 2},
		{ten, "09", "C", flow.OK, 0},
		{ten, "09A", "", flow.ErrSign, 2},
		{eleven, "09A", "D", flow.OK, 0},
		{eleven, "0B", "", flow.ErrSign, 1},
		{sixteen, "0123456789ABCDEF", "D", flow.OK, 0},
		{sixteen, "0a", "", flow.ErrSign, 1},
		{sixteen, "0f", "", flow.ErrSign, 1},
		{sixteen, "0G", "", flow.ErrSign, 1},
		{sixteen, "0@", "", flow.ErrSign, 1},
		{sixteen, "0:", "", flow.ErrSign, 1},
		{sixteen, "0/", "", flow.ErrSign, 1},
		{sixteen, "0\xff", "", flow.ErrSign, 1},
		{sixteen, "01\u00e9", "", flow.ErrSign, 2},
		// no sign goes ahead of not enabled, and the earlier step ahead of the later
		{example, "9", "", flow.ErrSign, 0},
		{example, "29", "", flow.ErrIdle, 0},
	})
}

func TestP4Idle(t *testing.T) {
	runFireCases(t, []fireCase{
		{example, "1", "", flow.ErrIdle, 0},
		{example, "00", "", flow.ErrIdle, 1},
		{example, "02", "", flow.ErrIdle, 1},
		{example, "0121", "", flow.ErrIdle, 3},
		{example, "01!", "", flow.ErrSign, 2},
		// one place of two is not enough, and not enabled goes ahead of spilling
		{"AF;aA>BC;bBD>E", "01", "", flow.ErrIdle, 1},
		{"AF;aA>BC;bBD>C", "01", "", flow.ErrIdle, 1},
	})
}

func TestP4Spill(t *testing.T) {
	runFireCases(t, []fireCase{
		{"AD;aA>BC;bB>D;cC>D", "012", "", flow.ErrSpill, 2},
		{"AD;aA>BC;bB>D;cC>D", "021", "", flow.ErrSpill, 2},
		{"AD;aA>BC;bB>C", "01", "", flow.ErrSpill, 1},
		{"AD;aA>BC;bB>BC", "01", "", flow.ErrSpill, 1},
		{"AD;aA>BC;bB>CEF", "01", "", flow.ErrSpill, 1},
		{"AD;aA>BC;bBC>BC", "0111", "BC", flow.OK, 0},
		// what stands behind the step that spills is not looked at
		{"AD;aA>BC;bB>C", "01!", "", flow.ErrSpill, 1},
	})
}

func TestP4LongRun(t *testing.T) {
	net := "AB;-A>C;-C>C;aC>B"
	loop := strings.Repeat("1", 65534)
	runFireCases(t, []fireCase{
		{net, "0" + loop, "C", flow.OK, 0},
		{net, "0" + loop + "2", "B", flow.OK, 0},
		{net, "0" + loop + "0", "", flow.ErrIdle, 65535},
		{net, "0" + loop + "3", "", flow.ErrSign, 65535},
		{net, "0" + loop + "2!", "", flow.ErrLong, 0},
	})
}

// plainFire is P4 word by word, for nets at which Check answers OK.
func plainFire(net string, run string) (string, flow.Errno, int) {
	parts := strings.Split(net, ";")
	marking := map[string]bool{parts[0][:1]: true}
	for number, sign := range strings.Split(run, "")[:len(run)] {
		which := strings.Index("0123456789ABCDEF"[:len(parts)-1], sign)
		if which < 0 {
			return "", flow.ErrSign, number
		}
		takes, puts, _ := strings.Cut(parts[which+1][1:], ">")
		for _, place := range strings.Split(takes, "") {
			if !marking[place] {
				return "", flow.ErrIdle, number
			}
		}
		for _, place := range strings.Split(takes, "") {
			delete(marking, place)
		}
		for _, place := range strings.Split(puts, "") {
			if marking[place] {
				return "", flow.ErrSpill, number
			}
		}
		for _, place := range strings.Split(puts, "") {
			marking[place] = true
		}
	}
	var places []string
	for place := range marking {
		places = append(places, place)
	}
	sort.Strings(places)
	return strings.Join(places, ""), flow.OK, 0
}

func TestP4EveryShortRun(t *testing.T) {
	nets := []string{
		example,
		"AD;aA>BC;bB>D;cC>D",
		"PA;-P>BC;aB>CD;bC>B;cBCD>AC",
		"AE;aA>BCD;bBC>C;cCD>BE;dB>D",
	}
	var walk func(net string, run string, left int)
	walk = func(net string, run string, left int) {
		marking, errno, place := plainFire(net, run)
		runFireCases(t, []fireCase{{net, run, marking, errno, place}})
		if left == 0 {
			return
		}
		for _, sign := range []string{"0", "1", "2", "3", "4", "A"} {
			walk(net, run+sign, left-1)
		}
	}
	for _, net := range nets {
		walk(net, "", 5)
	}
}
