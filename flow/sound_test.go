package flow_test

import (
	"strings"
	"testing"

	"flow/flow"
)

// checkSound holds a run of a net that Judge calls Sound against P8.
func checkSound(t *testing.T, net string, run string) {
	t.Helper()
	marking, errno, place := flow.Fire(net, run)
	if errno != flow.OK {
		t.Fatalf("Fire(%q, %q) = %d, %d", net, run, errno, place)
	}
	if strings.Contains(marking, net[1:2]) && marking != net[1:2] {
		t.Errorf("%q is sound, but %q comes to %q", net, run, marking)
	}
	text, errno := flow.Finish(net, run)
	if errno != flow.OK {
		t.Errorf("%q is sound, but Finish behind %q answers %d", net, run, errno)
	}
	if end, errno, _ := flow.Fire(net, run+text); errno != flow.OK || end != net[1:2] {
		t.Errorf("%q is sound, but Finish behind %q tells %q, which comes to %q, %d", net, run, text, end, errno)
	}
	for _, sign := range signsOf(net) {
		if _, errno, _ := flow.Fire(net, run+sign); errno == flow.ErrSpill {
			t.Errorf("%q is sound, but %q spills", net, run+sign)
		}
	}
}

// checkLive holds the transitions of a net that Judge calls Sound against P8.
func checkLive(t *testing.T, net string) {
	t.Helper()
	for _, sign := range signsOf(net) {
		run, errno := flow.Enable(net, sign)
		if errno != flow.OK || !strings.HasSuffix(run, sign) {
			t.Errorf("%q is sound, but Enable(%q) = %q, %d", net, sign, run, errno)
		}
		if _, errno, place := flow.Fire(net, run); errno != flow.OK {
			t.Errorf("%q is sound, but Enable(%q) = %q, which is no run: %d, %d", net, sign, run, errno, place)
		}
	}
}

// everyRun calls check at each run of at most so many steps more.
func everyRun(net string, run string, steps int, check func(run string)) {
	if _, errno, _ := flow.Fire(net, run); errno != flow.OK {
		return
	}
	check(run)
	if steps == 0 {
		return
	}
	for _, sign := range signsOf(net) {
		everyRun(net, run+sign, steps-1, check)
	}
}

func TestP8SoundNets(t *testing.T) {
	var nets []string
	nets = append(nets, smallNets()...)
	nets = append(nets, blockNets(100)...)
	nets = append(nets, lameNets(blockNets(30))...)
	pairs, _ := pairNet()
	nets = append(nets, pairs)
	sound := 0
	for _, net := range nets {
		if verdict, _, _ := flow.Judge(net); verdict != flow.Sound {
			continue
		}
		sound++
		checkLive(t, net)
		for _, run := range firstRuns(net, "") {
			checkSound(t, net, run)
		}
	}
	if sound < 120 {
		t.Errorf("only %d sound nets", sound)
	}
}

func TestP8EveryShortRun(t *testing.T) {
	nets := []string{
		example,
		"AB;-A>B",
		"AB;aA>C;bC>C;cC>B",
		"AB;aA>C;bC>D;cD>C;dD>B",
		"AB;aA>CDE;bCE>EF;cDE>EG;dEFG>B",
		"AB;aA>CD;bC>E;cD>F;dE>C;eF>D;xEF>B;yCD>B",
	}
	for _, net := range nets {
		runJudgeCases(t, []judgeCase{{net, flow.Sound, "", flow.OK}})
		everyRun(net, "", 7, func(run string) { checkSound(t, net, run) })
	}
}

func TestP8BlockNetsAreSound(t *testing.T) {
	for _, net := range blockNets(2000) {
		runJudgeCases(t, []judgeCase{{net, flow.Sound, "", flow.OK}})
	}
}

// textsInOrder is every text of at most so many signs, the shorter first and
// of the same length the lower.
func textsInOrder(signs []string, most int) []string {
	texts := []string{""}
	for at := 0; at < len(texts); at++ {
		for _, sign := range signs {
			if len(texts[at]) < most {
				texts = append(texts, texts[at]+sign)
			}
		}
	}
	return texts
}

// TestFirstOfAllTexts looks through whole lists of texts, so that what is first
// among them hangs on no way of searching.
func TestFirstOfAllTexts(t *testing.T) {
	const most = 6
	for _, net := range append(mixedNets(60), example, "AB;aA>CD;bC>D;cD>E;dE>B") {
		if strings.Count(net, ";") > 4 {
			continue
		}
		texts := textsInOrder(signsOf(net), most)
		answers := map[string]string{}
		for _, text := range texts {
			marking, errno, _ := plainFire(net, text)
			if errno == flow.OK && marking == net[1:2] {
				keepFirst(answers, "finish", text)
			}
			if errno == flow.OK && text != "" {
				keepFirst(answers, "enable"+text[len(text)-1:], text)
			}
			if errno == flow.ErrSpill {
				keepFirst(answers, "spill", text)
			}
		}
		if way, ok := answers["finish"]; ok {
			runFinishCases(t, []finishCase{{net, "", way, flow.OK}})
		}
		if text, ok := answers["spill"]; ok {
			runJudgeCases(t, []judgeCase{{net, flow.Spills, text, flow.OK}})
		}
		for _, sign := range signsOf(net) {
			if run, ok := answers["enable"+sign]; ok {
				runEnableCases(t, []enableCase{{net, sign, run, flow.OK}})
			}
		}
	}
}

func keepFirst(answers map[string]string, name string, text string) {
	if _, ok := answers[name]; !ok {
		answers[name] = text
	}
}
