package flow_test

import (
	"strings"
	"testing"

	"flow/flow"
)

type enableCase struct {
	net   string
	step  string
	run   string
	errno flow.Errno
}

func runEnableCases(t *testing.T, cases []enableCase) {
	t.Helper()
	for _, c := range cases {
		run, errno := flow.Enable(c.net, c.step)
		if run != c.run || errno != c.errno {
			t.Errorf("Enable(%.160q, %.80q) = %.80q, %d, want %.80q, %d", c.net, c.step, run, errno, c.run, c.errno)
		}
	}
}

func TestP7Runs(t *testing.T) {
	runEnableCases(t, []enableCase{
		{example, "0", "0", flow.OK},
		{example, "1", "01", flow.OK},
		{example, "2", "012", flow.OK},
		// the shortest, though another is lower
		{"AB;aA>C;bC>D;cA>D;dD>B", "3", "23", flow.OK},
		// of the shortest the lowest
		{"AB;-A>C;-A>D;-C>E;-D>E;-E>B", "4", "024", flow.OK},
		{"AB;-A>D;-A>C;-C>E;-D>E;-E>B", "4", "034", flow.OK},
		{"AB;aA>CD;bC>E;cD>F;dEF>B", "3", "0123", flow.OK},
		// the step may stand at a marking that does not lead to the end
		{"AB;aA>B;bA>C;cC>D", "2", "12", flow.OK},
		{"AB;aA>BC;bC>D", "1", "01", flow.OK},
		// where it would spill it is no step: the run goes on until it fires
		{"AB;aA>CD;bC>D;cD>E", "1", "021", flow.OK},
		{"AB;aA>CD;bC>D;cD>E;dE>B", "1", "021", flow.OK},
		{"AB" + transitions(9, "aC>D") + ";aA>C;aA>C;aD>B", "B", "90B", flow.OK},
		{"AB" + transitions(15, "aC>D") + ";aA>C", "F", "F", flow.OK},
		{"AB" + transitions(15, "aC>D") + ";aA>C", "E", "FE", flow.OK},
		{"AB" + transitions(9, "aC>D") + ";aA>C", "9", "9", flow.OK},
	})
}

func TestP7Never(t *testing.T) {
	runEnableCases(t, []enableCase{
		{"AB;aA>B;bC>B", "1", "", flow.ErrNever},
		{"AB;aA>C;aA>D;aCD>B", "2", "", flow.ErrNever},
		{"AB;aC>D;bD>C", "0", "", flow.ErrNever},
		// enabled, but wherever it is it spills
		{"AB;aA>CD;bC>D", "1", "", flow.ErrNever},
		{"AB;aA>CD;bC>CD", "1", "", flow.ErrNever},
		{"AB;aA>CD;bC>D;cD>D", "1", "", flow.ErrNever},
		// only behind a spill
		{"AB;aA>CD;bC>DE;cE>B", "2", "", flow.ErrNever},
	})
}

func TestP7Sign(t *testing.T) {
	ten := "AB" + transitions(10, "aA>B")
	sixteen := "AB" + transitions(16, "aA>B")
	runEnableCases(t, []enableCase{
		{"AB", "0", "", flow.ErrSign},
		{"AB", "", "", flow.ErrSign},
		{example, "", "", flow.ErrSign},
		{example, "3", "", flow.ErrSign},
		{example, "00", "", flow.ErrSign},
		{example, "01", "", flow.ErrSign},
		{example, "0 ", "", flow.ErrSign},
		{example, " 0", "", flow.ErrSign},
		{example, "a", "", flow.ErrSign},
		{example, "-", "", flow.ErrSign},
		{example, "\x00", "", flow.ErrSign},
		{example, "\xff", "", flow.ErrSign},
		{ten, "9", "9", flow.OK},
		{ten, "A", "", flow.ErrSign},
		{ten, "10", "", flow.ErrSign},
		{sixteen, "A", "A", flow.OK},
		{sixteen, "F", "F", flow.OK},
		{sixteen, "a", "", flow.ErrSign},
		{sixteen, "f", "", flow.ErrSign},
		{sixteen, "G", "", flow.ErrSign},
		{sixteen, "@", "", flow.ErrSign},
		{sixteen, ":", "", flow.ErrSign},
		{sixteen, "/", "", flow.ErrSign},
	})
}

func TestP7ErrorsOfCheckAndLong(t *testing.T) {
	far := strings.Repeat("0", 10_000_000)
	runEnableCases(t, []enableCase{
		{"", "0", "", flow.ErrNet},
		{"AB;aA>", "0", "", flow.ErrNet},
		{"AB;aA>", "!", "", flow.ErrNet},
		{"AB;aA>A", "0", "", flow.ErrShape},
		{"AB;aA>A", "", "", flow.ErrShape},
		{netOf(t, 160), "0", "", flow.ErrNever},
		{netOf(t, 161), "0", "", flow.ErrLong},
		{netOf(t, 161), "", "", flow.ErrLong},
		// the bound of a step is that of a run
		{example, far[:65536], "", flow.ErrSign},
		{example, far[:65537], "", flow.ErrLong},
		{"", far[:65536], "", flow.ErrNet},
		{"", far[:65537], "", flow.ErrLong},
		{"AB;aA>A", far[:65536], "", flow.ErrShape},
		{"AB;aA>A", far[:65537], "", flow.ErrLong},
		{far, far, "", flow.ErrLong},
	})
}

func TestP7LongRuns(t *testing.T) {
	counting, way := countingNet()
	pairs, pairsWay := pairNet()
	runEnableCases(t, []enableCase{
		{counting, "E", way, flow.OK},
		{counting, "D", way[:4097], flow.OK},
		{pairs, "8", pairsWay, flow.OK},
		{pairs, "7", pairsWay[:65], flow.OK},
	})
}

func TestP7AgainstPlainReading(t *testing.T) {
	var nets []string
	nets = append(nets, smallNets()...)
	nets = append(nets, mixedNets(1000)...)
	nets = append(nets, lameNets(blockNets(15))...)
	runs, nevers := 0, 0
	for _, net := range nets {
		for _, sign := range signsOf(net) {
			run, errno := plainEnable(net, sign)
			runEnableCases(t, []enableCase{{net, sign, run, errno}})
			if errno == flow.OK {
				runs++
			} else {
				nevers++
			}
		}
	}
	if runs < 500 || nevers < 500 {
		t.Errorf("only %d runs and %d refusals are compared", runs, nevers)
	}
}
