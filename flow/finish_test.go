package flow_test

import (
	"strings"
	"testing"

	"flow/flow"
)

type finishCase struct {
	net   string
	run   string
	text  string
	errno flow.Errno
}

func runFinishCases(t *testing.T, cases []finishCase) {
	t.Helper()
	for _, c := range cases {
		text, errno := flow.Finish(c.net, c.run)
		if text != c.text || errno != c.errno {
			t.Errorf("Finish(%.160q, %.80q) = %.80q, %d, want %.80q, %d", c.net, c.run, text, errno, c.text, c.errno)
		}
	}
}

func TestP6Ways(t *testing.T) {
	runFinishCases(t, []finishCase{
		{example, "", "012", flow.OK},
		{example, "0", "12", flow.OK},
		{example, "01", "2", flow.OK},
		{example, "012", "", flow.OK},
		{"PA;aP>A", "", "0", flow.OK},
		{"PA;aP>A", "0", "", flow.OK},
		// the shortest, though another is lower
		{"AB;aA>C;bC>B;cA>B", "", "2", flow.OK},
		// of the shortest the lowest
		{"AB;-A>C;-A>D;-D>B;-C>B", "", "03", flow.OK},
		{"AB;-A>D;-A>C;-D>B;-C>B", "", "02", flow.OK},
		{"AB;-A>B;-A>B", "", "0", flow.OK},
		{"AB;-A>CD;-C>E;-D>F;-EF>B", "0", "123", flow.OK},
		{"AB" + transitions(9, "aC>D") + ";aA>C;aA>C;aD>B", "", "90B", flow.OK},
		{"AB" + transitions(9, "aE>D") + ";aA>C;aA>C;aC>B", "A", "B", flow.OK},
		// the way begins behind the run, not at the start, and may go back
		{"AB;aA>C;bC>D;cD>C;dC>B", "01", "23", flow.OK},
		{"AB;aA>C;bC>D;cD>C;dC>B", "01212", "3", flow.OK},
		// a step that would spill is none: the other side goes first
		{"AB;aA>CDF;bC>D;cD>E;dDEF>B", "0", "213", flow.OK},
	})
}

func TestP6Never(t *testing.T) {
	runFinishCases(t, []finishCase{
		{"AB", "", "", flow.ErrNever},
		{"AB;aA>C", "", "", flow.ErrNever},
		{"AB;aA>C", "0", "", flow.ErrNever},
		{"AB;aA>C;bC>C", "011", "", flow.ErrNever},
		// the end and another place is not the end alone
		{"AB;aA>BC", "", "", flow.ErrNever},
		{"AB;aA>BC", "0", "", flow.ErrNever},
		{"AB;aA>BC;bC>D", "0", "", flow.ErrNever},
		// from here the end is lost, from the start it is not
		{"AB;aA>B;bA>C", "", "0", flow.OK},
		{"AB;aA>B;bA>C", "1", "", flow.ErrNever},
		// the one way there would spill
		{"AB;aA>CD;bC>D;cD>B", "", "", flow.ErrNever},
	})
}

func TestP6ErrorsOfFire(t *testing.T) {
	far := strings.Repeat("1", 10_000_000)
	runFinishCases(t, []finishCase{
		{"", "", "", flow.ErrNet},
		{"AB;aA>", "0", "", flow.ErrNet},
		{"AB;aA>A", "0", "", flow.ErrShape},
		{"AB;aA>A", "!", "", flow.ErrShape},
		{example, "3", "", flow.ErrSign},
		{example, "0123", "", flow.ErrSign},
		{example, "01\xff", "", flow.ErrSign},
		{example, "1", "", flow.ErrIdle},
		{example, "00", "", flow.ErrIdle},
		{example, "0120", "", flow.ErrIdle},
		{"AD;aA>BC;bB>D;cC>D", "012", "", flow.ErrSpill},
		{"AD;aA>BC;bB>C", "01!", "", flow.ErrSpill},
		// ahead of never
		{"AB", "0", "", flow.ErrSign},
		{"AB;aA>C;bD>B", "01", "", flow.ErrIdle},
		// too long goes ahead of all
		{netOf(t, 161), "", "", flow.ErrLong},
		{netOf(t, 161), "!", "", flow.ErrLong},
		{"AB", far[:65536], "", flow.ErrSign},
		{"AB", far[:65537], "", flow.ErrLong},
		{"", far[:65537], "", flow.ErrLong},
		{"AB;aA>A", far[:65537], "", flow.ErrLong},
		{far, far, "", flow.ErrLong},
	})
}

func TestP6LongRuns(t *testing.T) {
	net := "AB;-A>C;-C>C;aC>B"
	loop := strings.Repeat("1", 65535)
	counting, way := countingNet()
	pairs, pairsWay := pairNet()
	runFinishCases(t, []finishCase{
		// the bound is on the run that is handed in, not on the whole way
		{net, "0" + loop, "2", flow.OK},
		{net, "0" + loop + "1", "", flow.ErrLong},
		{counting, "", way, flow.OK},
		{counting, way[:1], way[1:], flow.OK},
		{counting, way[:4097], way[4097:], flow.OK},
		{counting, way, "", flow.OK},
		{pairs, "", pairsWay, flow.OK},
		{pairs, pairsWay[:77], pairsWay[77:], flow.OK},
	})
}

func TestP6AgainstPlainReading(t *testing.T) {
	var nets []string
	nets = append(nets, smallNets()...)
	nets = append(nets, mixedNets(300)...)
	nets = append(nets, blockNets(20)...)
	nets = append(nets, lameNets(blockNets(6))...)
	ends, nevers := 0, 0
	for _, net := range nets {
		for _, run := range firstRuns(net, "") {
			text, errno := plainFinish(net, run)
			runFinishCases(t, []finishCase{{net, run, text, errno}})
			if errno == flow.OK {
				ends++
			} else {
				nevers++
			}
		}
	}
	if ends < 500 || nevers < 500 {
		t.Errorf("only %d ways and %d refusals are compared", ends, nevers)
	}
}
