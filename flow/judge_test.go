package flow_test

import (
	"strings"
	"testing"

	"flow/flow"
)

type judgeCase struct {
	net     string
	verdict int
	text    string
	errno   flow.Errno
}

func runJudgeCases(t *testing.T, cases []judgeCase) {
	t.Helper()
	for _, c := range cases {
		verdict, text, errno := flow.Judge(c.net)
		if verdict != c.verdict || text != c.text || errno != c.errno {
			t.Errorf("Judge(%.160q) = %d, %.80q, %d, want %d, %.80q, %d",
				c.net, verdict, text, errno, c.verdict, c.text, c.errno)
		}
	}
}

// countingNet has thirteen places D to P that count from none to all of them,
// as bits do: only the lowest that holds no token can be put to without a
// spill. Its way to the end has 8193 steps and no other.
func countingNet() (string, string) {
	net := "AB;-A>C;-C>CD"
	const bits = "DEFGHIJKLMNOP"
	for i := 1; i < len(bits); i++ {
		net += ";-" + bits[:i] + ">" + bits[i:i+1]
	}
	net += ";-C" + bits + ">B"
	return net, "0" + countingSteps(len(bits)) + "E"
}

// pairNet counts from 0 to 127 with seven pairs of places, one for a bit that is
// not set and one for a bit that is, so that nothing spills. It is sound, and
// its way to the end has 129 steps and no other.
func pairNet() (string, string) {
	const unset, set = "CEGIKMO", "DFHJLNP"
	net := "AB;-A>" + unset
	for i := range unset {
		takes, puts := "", ""
		for lower := range i {
			takes += set[lower : lower+1]
			puts += unset[lower : lower+1]
		}
		net += ";-" + takes + unset[i:i+1] + ">" + puts + set[i:i+1]
	}
	net += ";-" + set + ">B"
	return net, "0" + countingSteps(len(unset)) + "8"
}

// countingSteps is the steps in which so many bits count from none to all of
// them, where transition 1 sets the lowest bit, 2 the next, and so on.
func countingSteps(bits int) string {
	var steps []byte
	for count := 1; count < 1<<bits; count++ {
		bit := 0
		for count>>bit&1 == 0 {
			bit++
		}
		steps = append(steps, "123456789ABCDEF"[bit])
	}
	return string(steps)
}

func TestP5ErrorsOfCheck(t *testing.T) {
	runJudgeCases(t, []judgeCase{
		{"", 0, "", flow.ErrNet},
		{"A", 0, "", flow.ErrNet},
		{"AA", 0, "", flow.ErrNet},
		{"AB;aA>B;", 0, "", flow.ErrNet},
		{"AB" + transitions(17, "aA>B"), 0, "", flow.ErrNet},
		{"AB;aA>A", 0, "", flow.ErrShape},
		{"AB;aA>B;bB>C", 0, "", flow.ErrShape},
		{netOf(t, 161), 0, "", flow.ErrLong},
		{strings.Repeat("x", 10_000_000), 0, "", flow.ErrLong},
		{"AB;aA>A" + netOf(t, 160)[2:], 0, "", flow.ErrLong},
	})
}

func TestP5Sound(t *testing.T) {
	runJudgeCases(t, []judgeCase{
		{example, flow.Sound, "", flow.OK},
		{"AB;-A>B", flow.Sound, "", flow.OK},
		{"PA;xP>A", flow.Sound, "", flow.OK},
		{"AB" + transitions(16, "aA>B"), flow.Sound, "", flow.OK},
		// a loop that need not end, but can
		{"AB;aA>C;bC>C;cC>B", flow.Sound, "", flow.OK},
		{"AB;aA>C;bC>D;cD>C;dD>B", flow.Sound, "", flow.OK},
		// a place that is taken and put at once holds no second token
		{"AB;aA>CD;bCD>CD;cC>C;dCD>B", flow.Sound, "", flow.OK},
		// two sides that need the same place by turns
		{"AB;aA>CDE;bCE>EF;cDE>EG;dEFG>B", flow.Sound, "", flow.OK},
	})
}

func TestP5Spills(t *testing.T) {
	runJudgeCases(t, []judgeCase{
		{"AB;aA>CD;bC>D", flow.Spills, "01", flow.OK},
		{"AB;aA>CD;bC>CD", flow.Spills, "01", flow.OK},
		{"AB;aA>CD;bC>B;cD>B", flow.Spills, "012", flow.OK},
		// the shortest text, though a longer one is lower
		{"AG;-A>BC;-B>D;-D>C;-B>C", flow.Spills, "03", flow.OK},
		// of the shortest the lowest, by the run first and then by the last sign
		{"AG;-A>BC;-B>D;-C>D;-B>E;-C>E", flow.Spills, "012", flow.OK},
		{"AG;-A>BC;-B>E;-C>D;-B>D;-C>E", flow.Spills, "014", flow.OK},
		{"AG;-A>BC;-C>B;-B>C", flow.Spills, "01", flow.OK},
		// the first marking behind a digit goes ahead of that behind a letter
		{"AB" + transitions(9, "aC>D") + ";aA>CE;aA>CE;aC>E", flow.Spills, "9B", flow.OK},
		// a spill goes ahead of all else, though it comes later
		{"AB;-A>BC;-C>DE;-D>E", flow.Spills, "012", flow.OK},
		{"AB;-A>C;-A>DE;-D>F;-F>E;-G>H", flow.Spills, "123", flow.OK},
		// markings behind a spill are none that can be reached
		{"AB;aA>CD;bC>D;cD>B;dC>B", flow.Spills, "01", flow.OK},
		// not a spill: what would spill is not enabled where it would
		{"AB;aA>C;aA>D;bC>E;cD>E;bE>B", flow.Sound, "", flow.OK},
		{"AB;aA>CD;bC>E;cDE>F;dF>B", flow.Sound, "", flow.OK},
	})
}

func TestP5Improper(t *testing.T) {
	runJudgeCases(t, []judgeCase{
		{"AB;aA>BC", flow.Improper, "0", flow.OK},
		{"AB;aA>CD;bC>B", flow.Improper, "01", flow.OK},
		// the run may go on, but never to the end alone
		{"AB;aA>BC;bC>C", flow.Improper, "0", flow.OK},
		// the first run: the shortest, then the lowest
		{"AB;aA>C;bC>BD;cA>BD", flow.Improper, "2", flow.OK},
		{"AB;aA>C;aA>D;aC>BE;aD>BE", flow.Improper, "02", flow.OK},
		{"AB;aA>D;aA>C;aC>BE;aD>BE", flow.Improper, "03", flow.OK},
		// ahead of stuck, though that comes earlier, and of dead
		{"AB;aA>C;aA>D;aD>E;aE>BC;aF>B", flow.Improper, "123", flow.OK},
		// places on either side of the end
		{"HD;aH>CD", flow.Improper, "0", flow.OK},
		{"HD;aH>DP", flow.Improper, "0", flow.OK},
		{"PA;aP>BO;bB>A", flow.Improper, "01", flow.OK},
		{"AP;aA>BO;bB>P", flow.Improper, "01", flow.OK},
	})
}

func TestP5Stuck(t *testing.T) {
	runJudgeCases(t, []judgeCase{
		{"AB", flow.Stuck, "", flow.OK},
		{"AB;aA>C", flow.Stuck, "", flow.OK},
		{"AB;aC>B", flow.Stuck, "", flow.OK},
		{"AB;aA>C;bC>C", flow.Stuck, "", flow.OK},
		{"AB;aA>B;bA>C", flow.Stuck, "1", flow.OK},
		// going round for ever is stuck, too
		{"AB;aA>B;bA>C;cC>D;dD>C", flow.Stuck, "1", flow.OK},
		// the first run: the shortest, then the lowest
		{"AB;aA>C;bC>D;cC>B;dA>E", flow.Stuck, "3", flow.OK},
		{"AB;aA>C;aA>D;aC>B;aD>B;aD>E;aC>F", flow.Stuck, "05", flow.OK},
		{"AB;aA>D;aA>C;aC>B;aD>B;aD>E;aC>F", flow.Stuck, "04", flow.OK},
		// two sides that wait for each other
		{"AB;aA>CD;bC>E;cD>F;dEF>B;eCF>G", flow.Stuck, "024", flow.OK},
		// ahead of dead
		{"AB;aA>B;bA>C;cD>B", flow.Stuck, "1", flow.OK},
		// the end with a place more is not the end alone, but improper
		{"AB;aA>BC;bA>B", flow.Improper, "0", flow.OK},
	})
}

func TestP5Dead(t *testing.T) {
	runJudgeCases(t, []judgeCase{
		{"AB;aC>B;bA>B", flow.Dead, "0", flow.OK},
		{"AB;aA>B;bC>B", flow.Dead, "1", flow.OK},
		{"AB;aA>B;bC>D;cD>C", flow.Dead, "1", flow.OK},
		// both places can hold a token, but not at once
		{"AB;aA>C;aA>D;aC>B;aD>B;aCD>B", flow.Dead, "4", flow.OK},
		{"AB" + transitions(9, "aA>B") + ";aC>B;aD>B", flow.Dead, "9", flow.OK},
		{"AB" + transitions(10, "aA>B") + ";aC>B;aD>B", flow.Dead, "A", flow.OK},
		{"AB" + transitions(15, "aA>B") + ";aC>B", flow.Dead, "F", flow.OK},
		{"AB" + transitions(15, "aC>C") + ";aA>B", flow.Dead, "0", flow.OK},
	})
}

func TestP5SignsAboveNine(t *testing.T) {
	dead := transitions(9, "aA>B")
	runJudgeCases(t, []judgeCase{
		{"AB" + dead + ";aA>CD;aC>E;aE>D", flow.Spills, "9AB", flow.OK},
		{"AB" + dead + ";aA>CD;aC>E;aE>B", flow.Improper, "9AB", flow.OK},
		{"AB" + dead + ";aA>C;aC>B;aC>D;aD>B;aD>E", flow.Stuck, "9BD", flow.OK},
		{"AB" + dead + ";aA>C;aC>D;aD>E;aE>F;aF>B;aF>G;aF>B", flow.Stuck, "9ABCE", flow.OK},
	})
}

func TestP5Labels(t *testing.T) {
	// the labels play no part
	for _, net := range []string{"AB;aA>CD;bC>D", "AB;-A>CD;-C>D", "AB;aA>CD;aC>D"} {
		runJudgeCases(t, []judgeCase{{net, flow.Spills, "01", flow.OK}})
	}
}

func TestP5LongRuns(t *testing.T) {
	net, way := pairNet()
	counting, _ := countingNet()
	last := way[:len(way)-1]
	runJudgeCases(t, []judgeCase{
		{counting, flow.Spills, "011", flow.OK},
		{net, flow.Sound, "", flow.OK},
		{net + ";-CD>E", flow.Dead, "9", flow.OK},
		{net + ";-DFHJLNP>BC", flow.Improper, last + "9", flow.OK},
		{net + ";-DFHJLNP>C", flow.Stuck, last + "9", flow.OK},
		{net + ";-CFHJLNP>E", flow.Stuck, last[:len(last)-1] + "9", flow.OK},
		{net + ";-DFHJLNP>CDE", flow.Spills, last + "91", flow.OK},
		{net + ";-DFHJLN>O", flow.Spills, last[:64] + "9", flow.OK},
	})
}

func TestP5AgainstPlainReading(t *testing.T) {
	seen := map[int]int{}
	var nets []string
	nets = append(nets, smallNets()...)
	nets = append(nets, mixedNets(1000)...)
	nets = append(nets, lameNets(blockNets(25))...)
	for _, net := range nets {
		verdict, text := plainJudge(net)
		runJudgeCases(t, []judgeCase{{net, verdict, text, flow.OK}})
		seen[verdict]++
	}
	for verdict := flow.Sound; verdict <= flow.Dead; verdict++ {
		if seen[verdict] < 30 {
			t.Errorf("only %d of %d nets have the verdict %d", seen[verdict], len(nets), verdict)
		}
	}
}
