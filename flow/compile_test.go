package flow_test

import (
	"strings"
	"testing"

	"flow/flow"
)

// checkCompiled holds what Compile answers at a process against P11.
func checkCompiled(t *testing.T, proc string) {
	t.Helper()
	net, errno, place := flow.Compile(proc)
	if errno != flow.OK || place != 0 {
		t.Errorf("Compile(%q) = %q, %d, %d", proc, net, errno, place)
		return
	}
	if errno, place := flow.Check(net); errno != flow.OK {
		t.Errorf("Compile(%q) = %q, at which Check answers %d, %d", proc, net, errno, place)
		return
	}
	if verdict, text, _ := flow.Judge(net); verdict != flow.Sound {
		t.Errorf("Compile(%q) = %q, which Judge calls %d, %q", proc, net, verdict, text)
	}
	if word, differs := differingWord(net, proc); differs {
		t.Errorf("Compile(%q) = %q: only one of the two has the word %q", proc, net, word)
	}
}

func TestP11Processes(t *testing.T) {
	for _, proc := range []string{
		"a", "z", ".ab", "+ab", "&ab", "*a", ".aa", "+aa", "&aa",
		// what may be repeated beside another way, behind it or ahead of it
		"+*ab", "+a*b", "+*a*b", "+.*ab*c", "+.a*bc", ".*a*b", ".*ab", ".a*b", ".+*abc", ".a+*bc",
		"**a", "***a", "*******a", "*+*ab", "*+*a*b", "*.*a*b", "*&*a*b", "*.*a+b*c",
		// side by side
		"&a&bc", "&&abc", "&.ab.cd", "*&.ab.cd", "&*a*b", "&*.ab*c", "&+ab+cd", "*&&ab&cd", "&&&*abcd", "&&&abc*d",
		"+&ab&cd", ".&ab&cd", "&.ab*c",
		"&&a&bc*d", "+*&abc",
	} {
		checkCompiled(t, proc)
	}
}

// The names of tasks change nothing in how a net is built, so different ones
// for all tasks tell the most; that one name may come twice is seen as well.
func TestP11EveryProcess(t *testing.T) {
	count := 0
	for n := 1; n <= 8; n++ {
		for _, proc := range processes(n) {
			count++
			checkCompiled(t, named(proc, "abcd"))
			checkCompiled(t, named(proc, "ab"))
			checkCompiled(t, named(proc, "a"))
		}
	}
	if count != 2264 {
		t.Errorf("%d processes, want 2264", count)
	}
}

// TestP11PlaysWhatItAccepts holds the three calls against one another.
func TestP11PlaysWhatItAccepts(t *testing.T) {
	words := textsInOrder([]string{"a", "b", "c"}, 4)
	words = append(words, "abababab", "aaaaaaaa", "abcabcab", "bbbbbbba", "ccbbaacb")
	for n := 1; n <= 6; n++ {
		for _, proc := range processes(n) {
			proc = named(proc, "abc")
			net, _, _ := flow.Compile(proc)
			for _, word := range words {
				accepts, _, _ := flow.Accepts(proc, word)
				runPlaysCases(t, []playsCase{{net, word, accepts, flow.OK}})
			}
		}
	}
}

func TestP11EveryTask(t *testing.T) {
	for _, task := range strings.Split("abcdefghijklmnopqrstuvwxyz", "") {
		checkCompiled(t, task)
		checkCompiled(t, "*"+task)
	}
}

func TestP11Errors(t *testing.T) {
	far := strings.Repeat("a", 10_000_000)
	for _, c := range []struct {
		proc  string
		errno flow.Errno
		place int
	}{
		{"", flow.ErrProc, 0},
		{".a", flow.ErrProc, 2},
		{"*", flow.ErrProc, 1},
		{"ab", flow.ErrProc, 1},
		{"a.", flow.ErrProc, 1},
		{".abc", flow.ErrProc, 3},
		{"A", flow.ErrProc, 0},
		{"-", flow.ErrProc, 0},
		{".a-", flow.ErrProc, 2},
		{"*\xff", flow.ErrProc, 1},
		{"a\u00e9", flow.ErrProc, 1},
		{"........", flow.ErrProc, 8},
		{"********", flow.ErrProc, 8},
		{"********-", flow.ErrProc, 8},
		{"........................", flow.ErrProc, 24},
		{"********a", flow.ErrLarge, 0},
		{"....abcde", flow.ErrLarge, 0},
		{strings.Repeat("*", 23) + "a", flow.ErrLarge, 0},
		{strings.Repeat("*", 24) + "a", flow.ErrLong, 0},
		{strings.Repeat("-", 24), flow.ErrProc, 0},
		{strings.Repeat("-", 25), flow.ErrLong, 0},
		{far[:24], flow.ErrProc, 1},
		{far[:25], flow.ErrLong, 0},
		{far, flow.ErrLong, 0},
	} {
		if net, errno, place := flow.Compile(c.proc); net != "" || errno != c.errno || place != c.place {
			t.Errorf("Compile(%.80q) = %q, %d, %d, want \"\", %d, %d", c.proc, net, errno, place, c.errno, c.place)
		}
	}
}

// TestDifferingWord shows that the comparison of P11 finds words that differ.
func TestDifferingWord(t *testing.T) {
	for _, c := range []struct {
		net  string
		proc string
		word string
		ok   bool
	}{
		{"AB;aA>B", "a", "", false},
		{"AB;aA>B", "b", "a", true},
		{"AB;aA>B", "*a", "", true},
		{"AB;-A>C;aC>C;-C>B", "*a", "", false},
		{"AB;-A>C;aC>C;-C>B", "**a", "", false},
		{"AB;-A>C;aC>C;-C>B", "+*ab", "b", true},
		{"AB;-A>C;aC>C;bC>B", ".*ab", "", false},
		{"AB;aA>CD;bC>E;cD>F;-EF>B", ".a&bc", "", false},
		{"AB;aA>CD;bC>E;cD>F;-EF>B", ".a.bc", "acb", true},
		// longer than a word that is handed in may be
		{"AB;aA>C;aC>D;aD>E;aE>F;aF>G;aG>H;aH>I;aI>J;aJ>B", "........aaaaaaaaa", "", false},
		{"AB;aA>C;aC>D;aD>E;aE>F;aF>G;aG>H;aH>I;aI>J;aJ>B", "........aaaaaaaab", "aaaaaaaaa", true},
	} {
		if word, ok := differingWord(c.net, c.proc); word != c.word || ok != c.ok {
			t.Errorf("differingWord(%q, %q) = %q, %v, want %q, %v", c.net, c.proc, word, ok, c.word, c.ok)
		}
	}
}
