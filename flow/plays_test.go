package flow_test

import (
	"strings"
	"testing"

	"flow/flow"
)

type playsCase struct {
	net   string
	word  string
	plays bool
	errno flow.Errno
}

func runPlaysCases(t *testing.T, cases []playsCase) {
	t.Helper()
	for _, c := range cases {
		plays, errno := flow.Plays(c.net, c.word)
		if plays != c.plays || errno != c.errno {
			t.Errorf("Plays(%.160q, %.80q) = %v, %d, want %v, %d", c.net, c.word, plays, errno, c.plays, c.errno)
		}
	}
}

func TestP9Words(t *testing.T) {
	runPlaysCases(t, []playsCase{
		{example, "ab", true, flow.OK},
		{example, "", false, flow.OK},
		{example, "a", false, flow.OK},
		{example, "b", false, flow.OK},
		{example, "ba", false, flow.OK},
		{example, "abb", false, flow.OK},
		{example, "abz", false, flow.OK},
		{"AB;aA>B", "a", true, flow.OK},
		{"AB;zA>B", "z", true, flow.OK},
		{"AB;aA>B", "aa", false, flow.OK},
		{"PA;aP>O;bO>A", "ab", true, flow.OK},
		// ways beside one another that begin with one letter
		{"AB;aA>C;aA>D;bC>B;cD>B", "ab", true, flow.OK},
		{"AB;aA>C;aA>D;bC>B;cD>B", "ac", true, flow.OK},
		{"AB;aA>C;aA>D;bC>B;cD>B", "abc", false, flow.OK},
		{"AB;aA>CD;bC>E;cD>F;-EF>B", "abc", true, flow.OK},
		{"AB;aA>CD;bC>E;cD>F;-EF>B", "acb", true, flow.OK},
		{"AB;aA>CD;bC>E;cD>F;-EF>B", "ab", false, flow.OK},
		{"AB;aA>CD;bC>E;cD>F;-EF>B", "abcb", false, flow.OK},
		// transitions above the tenth
		{"AB" + transitions(15, "aC>C") + ";bA>B", "b", true, flow.OK},
		{"AB" + transitions(15, "aC>C") + ";bA>B", "a", false, flow.OK},
	})
}

func TestP9EmptyWord(t *testing.T) {
	runPlaysCases(t, []playsCase{
		{"AB", "", false, flow.OK},
		{"AB;-A>B", "", true, flow.OK},
		{"AB;-A>B", "a", false, flow.OK},
		{"AB;aA>B", "", false, flow.OK},
		{"AB;-A>C;-C>B", "", true, flow.OK},
		{"AB;-A>C;aC>B", "", false, flow.OK},
		{"AB;-A>CD;-C>E;-D>F;-EF>B", "", true, flow.OK},
	})
}

func TestP9SilentSteps(t *testing.T) {
	counting, _ := countingNet()
	spelling := strings.Replace(counting, ";-A>C", ";xA>C", 1)
	runPlaysCases(t, []playsCase{
		{"AB;-A>C;aC>D;-D>E;bE>F;-F>B", "ab", true, flow.OK},
		{"AB;-A>C;aC>D;-D>E;bE>F;-F>B", "a", false, flow.OK},
		// round and round without a letter
		{"AB;-A>C;-C>D;-D>C;aD>C;bC>B", "b", true, flow.OK},
		{"AB;-A>C;-C>D;-D>C;aD>C;bC>B", "aaab", true, flow.OK},
		{"AB;-A>C;-C>D;-D>C;aD>C;bC>B", "aaa", false, flow.OK},
		{"AB;-A>C;-C>C", "", false, flow.OK},
		{"AB;-A>C;aC>C;-C>B", "aaaaaaaa", true, flow.OK},
		{"AB;-A>C;aC>C;-C>B", "aaaaaaab", false, flow.OK},
		// thousands of silent steps on the way
		{counting, "", true, flow.OK},
		{counting, "x", false, flow.OK},
		{spelling, "", false, flow.OK},
		{spelling, "x", true, flow.OK},
		{spelling, "xx", false, flow.OK},
	})
}

func TestP9OnlyRunsThatHaveEnded(t *testing.T) {
	runPlaysCases(t, []playsCase{
		// the end and another place
		{"AB;aA>BC", "a", false, flow.OK},
		{"AB;aA>BC;bC>D", "ab", false, flow.OK},
		{"AB;aA>BC;bA>B", "a", false, flow.OK},
		{"AB;aA>BC;bA>B", "b", true, flow.OK},
		// all places but the end
		{"AB;aA>C", "a", false, flow.OK},
		// a step that spills is none, nor is what comes behind it
		{"AD;aA>BC;bB>D;cC>D", "abc", false, flow.OK},
		{"AB;aA>CD;bC>D;cD>B", "abc", false, flow.OK},
		{"AB;aA>CD;bC>D;cD>E;dE>F;eDF>B", "acbde", true, flow.OK},
		{"AB;aA>CD;bC>D;cD>E;dE>F;eDF>B", "abcde", false, flow.OK},
		{"AB;aA>CD;-C>D;cD>B", "ac", false, flow.OK},
		// a place that is taken from and put to keeps its token
		{"AB;aA>CD;bC>C;cCD>B", "abbbc", true, flow.OK},
		// nets that are not sound have words as well
		{"AB;aA>B;bA>C;cD>B", "a", true, flow.OK},
		{"AB;aA>B;bA>C;cD>B", "b", false, flow.OK},
		{"AB;aA>B;bA>C;cD>B", "bc", false, flow.OK},
	})
}

func TestP9Word(t *testing.T) {
	loop := "AB;-A>C;aC>C;zC>C;-C>B"
	cases := []playsCase{
		{loop, "azazazaz", true, flow.OK},
		{loop, "aA", false, flow.ErrWord},
		{loop, "-", false, flow.ErrWord},
		{loop, "a-", false, flow.ErrWord},
		{loop, "-a", false, flow.ErrWord},
		{loop, "aaaaaaa-", false, flow.ErrWord},
		{loop, "\u00e9", false, flow.ErrWord},
		// no word, though no run comes so far
		{"AB", "!", false, flow.ErrWord},
		{"AB;aA>B", "aaa!", false, flow.ErrWord},
	}
	for b := 0; b < 256; b++ {
		c := playsCase{loop, string([]byte{'a', byte(b)}), b == 'a' || b == 'z', flow.OK}
		if b < 'a' || b > 'z' {
			c.errno = flow.ErrWord
		}
		cases = append(cases, c)
	}
	runPlaysCases(t, cases)
}

func TestP9ErrorsOfCheckAndLong(t *testing.T) {
	far := strings.Repeat("a", 10_000_000)
	runPlaysCases(t, []playsCase{
		{"", "", false, flow.ErrNet},
		{"AB;aA>", "a", false, flow.ErrNet},
		{"AB;aA>", "!", false, flow.ErrNet},
		{"AB;aA>B!", "a", false, flow.ErrNet},
		{"AB;aA>A", "a", false, flow.ErrShape},
		{"AB;aA>A", "!", false, flow.ErrShape},
		{"AB;aB>C", "", false, flow.ErrShape},
		{netOf(t, 160), "", false, flow.OK},
		{netOf(t, 160), "!", false, flow.ErrWord},
		{netOf(t, 161), "", false, flow.ErrLong},
		{netOf(t, 161), "!", false, flow.ErrLong},
		{"AB;aA>B", far[:8], false, flow.OK},
		{"AB;aA>B", far[:9], false, flow.ErrLong},
		{"AB;aA>B", far, false, flow.ErrLong},
		{"AB;aA>B", "--------", false, flow.ErrWord},
		{"AB;aA>B", "---------", false, flow.ErrLong},
		{"AB;aA>B", "\u00e9\u00e9\u00e9\u00e9", false, flow.ErrWord},
		{"AB;aA>B", "\u00e9\u00e9\u00e9\u00e9\u00e9", false, flow.ErrLong},
		{"", far[:8], false, flow.ErrNet},
		{"", far[:9], false, flow.ErrLong},
		{"AB;aA>A", far[:8], false, flow.ErrShape},
		{"AB;aA>A", far[:9], false, flow.ErrLong},
		{far, far, false, flow.ErrLong},
	})
}

// labelledNets is a net with its labels set to two letters and silent in all ways.
func labelledNets(net string) []string {
	parts := strings.Split(net, ";")
	nets := parts[:1]
	for _, part := range parts[1:] {
		var longer []string
		for _, ahead := range nets {
			for _, label := range []string{"-", "a", "b"} {
				longer = append(longer, ahead+";"+label+part[1:])
			}
		}
		nets = longer
	}
	return nets
}

func TestP9AgainstPlainReading(t *testing.T) {
	const most = 4
	var nets []string
	for _, net := range smallNets() {
		if _, errno := plainFinish(net, ""); errno == flow.OK {
			nets = append(nets, labelledNets(net)...)
		}
	}
	nets = append(nets, mixedNets(1000)...)
	nets = append(nets, blockNets(100)...)
	nets = append(nets, lameNets(blockNets(15))...)
	words := textsInOrder([]string{"a", "b", "c"}, most)
	played, refused := 0, 0
	for _, net := range nets {
		has := netWords(net, most)
		for _, word := range words {
			// a net that has no word at all is looked at less
			if len(word) > 1 && len(has) == 0 {
				break
			}
			runPlaysCases(t, []playsCase{{net, word, has[word], flow.OK}})
			if has[word] {
				played++
			} else {
				refused++
			}
		}
	}
	if played < 1000 || refused < 1000 {
		t.Errorf("only %d words and %d others are compared", played, refused)
	}
}

func TestP9LongWordsAgainstPlainReading(t *testing.T) {
	played := 0
	for _, net := range blockNets(100) {
		has := netWords(net, 8)
		for word := range has {
			if len(word) < 5 {
				continue
			}
			played++
			runPlaysCases(t, []playsCase{{net, word, true, flow.OK}})
			for i := range word {
				for _, letter := range []string{"", "a", "b", "c"} {
					other := word[:i] + letter + word[i+1:]
					runPlaysCases(t, []playsCase{{net, other, has[other], flow.OK}})
				}
			}
		}
	}
	if played < 500 {
		t.Errorf("only %d words are compared", played)
	}
}
