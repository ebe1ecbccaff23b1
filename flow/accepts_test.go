package flow_test

import (
	"strings"
	"testing"

	"flow/flow"
)

type acceptsCase struct {
	proc    string
	word    string
	accepts bool
	errno   flow.Errno
	place   int
}

func runAcceptsCases(t *testing.T, cases []acceptsCase) {
	t.Helper()
	for _, c := range cases {
		accepts, errno, place := flow.Accepts(c.proc, c.word)
		if accepts != c.accepts || errno != c.errno || place != c.place {
			t.Errorf("Accepts(%.80q, %.80q) = %v, %d, %d, want %v, %d, %d",
				c.proc, c.word, accepts, errno, place, c.accepts, c.errno, c.place)
		}
	}
}

// hasWords checks which of some words a process has: those of yes and none of no.
func hasWords(t *testing.T, proc string, yes string, no string) {
	t.Helper()
	for i, words := range []string{yes, no} {
		for _, word := range strings.Split(words, " ") {
			word = strings.Trim(word, "_")
			runAcceptsCases(t, []acceptsCase{{proc, word, i == 0, flow.OK, 0}})
		}
	}
}

// The empty word is written _ here.
func TestP10Words(t *testing.T) {
	hasWords(t, "a", "a", "_ b aa ab ba")
	hasWords(t, "z", "z", "_ a zz y")
	hasWords(t, ".ab", "ab", "_ a b ba abb aab aba")
	hasWords(t, "+ab", "a b", "_ ab ba aa bb c")
	hasWords(t, "&ab", "ab ba", "_ a b aa bb aba abab")
	hasWords(t, "*a", "_ a aa aaa aaaaaaaa", "b ab ba aaaaaaab baaaaaaa")
	hasWords(t, "..abc", "abc", "_ ab bc acb bca abcabc")
	hasWords(t, ".a.bc", "abc", "_ ab bc acb bca abcabc")
	hasWords(t, ".+ab+cd", "ac ad bc bd", "a ab cd ca abcd")
	hasWords(t, "+.ab.cd", "ab cd", "ad cb abcd _ ac")
	hasWords(t, ".aa", "aa", "a aaa _")
	hasWords(t, "+aa", "a", "aa _")
}

func TestP10SideBySide(t *testing.T) {
	hasWords(t, "&.ab.cd", "abcd acbd acdb cabd cadb cdab", "bacd abdc adbc ab cd abc abcdd")
	hasWords(t, "&aa", "aa", "_ a aaa")
	hasWords(t, "&.ab.ab", "abab aabb", "abba baab ab aab ababab")
	hasWords(t, "&a&bc", "abc acb bac bca cab cba", "ab abcc aab")
	hasWords(t, "&*a*b", "_ a b ab ba aabb abab bbbbaaaa", "c abc")
	hasWords(t, "&+ab+cd", "ac ca ad da bc cb bd db", "ab cd a abcd")
	hasWords(t, "&*.ab*c", "_ c ab acb cab abc accb acbcacbc", "acab ba a b aab acc")
	hasWords(t, "&*.ab.cd", "cd abcd cabd acbd acdb", "caabbd cabad dc c ab")
	// the letters of one side need not stand together
	hasWords(t, "&.a.bcd", "abcd dabc adbc abdc", "acbd bacd")
	hasWords(t, "&.a.bcb", "abcb babc abbc", "abc acbb bacb bbac")
}

func TestP10Repeated(t *testing.T) {
	hasWords(t, "*.ab", "_ ab abab abababab", "a b ba aba abba bab")
	hasWords(t, "*+ab", "_ a b ab ba aabbabab", "c abc abababac")
	hasWords(t, "*&ab", "_ ab ba abba abab baab baba abbaabba", "a b aabb bbaa aab")
	hasWords(t, "**a", "_ a aa aaaaaaaa", "b ab")
	hasWords(t, "*******a", "_ a aa aaaaaaaa", "b aaaaaaab")
	hasWords(t, "*.*ab", "_ b ab bb aab bab aabbaab", "a ba bba")
	hasWords(t, "*.*a*b", "_ a b ab ba abab bbaa", "c")
	hasWords(t, ".*ab", "b ab aab aaaaaaab", "_ a ba bb")
	hasWords(t, ".a*b", "a ab abb abbbbbbb", "_ b aab aba")
	hasWords(t, "+*ab", "_ a aa b", "ab ba bb aab")
	hasWords(t, "+*a*b", "_ a aa b bb", "ab ba aab")
	hasWords(t, ".*a*b", "_ a b ab aab abb aaaabbbb", "ba aba bab")
	hasWords(t, "*.a.bc", "_ abc abcabc", "abcab ab abca acb")
	hasWords(t, "*..aab", "_ aab aabaab", "ab aabab aaab")
}

func TestP10Process(t *testing.T) {
	runAcceptsCases(t, []acceptsCase{
		{"", "", false, flow.ErrProc, 0},
		{"", "a", false, flow.ErrProc, 0},
		// it ends too early
		{".", "a", false, flow.ErrProc, 1},
		{"*", "a", false, flow.ErrProc, 1},
		{".a", "a", false, flow.ErrProc, 2},
		{"+a", "a", false, flow.ErrProc, 2},
		{"&a", "a", false, flow.ErrProc, 2},
		{"..ab", "a", false, flow.ErrProc, 4},
		{".a*", "a", false, flow.ErrProc, 3},
		{"........", "a", false, flow.ErrProc, 8},
		{"........................", "a", false, flow.ErrProc, 24},
		{"***********************+", "a", false, flow.ErrProc, 24},
		// it goes on too long
		{"ab", "a", false, flow.ErrProc, 1},
		{"a.", "a", false, flow.ErrProc, 1},
		{"a*", "a", false, flow.ErrProc, 1},
		{"*ab", "a", false, flow.ErrProc, 2},
		{".abc", "a", false, flow.ErrProc, 3},
		{".ab.ab", "a", false, flow.ErrProc, 3},
		{"aaaaaaaaaaaaaaaaaaaaaaaa", "a", false, flow.ErrProc, 1},
		{strings.Repeat("*", 22) + "ab", "a", false, flow.ErrProc, 23},
		// other bytes
		{"A", "a", false, flow.ErrProc, 0},
		{"-", "a", false, flow.ErrProc, 0},
		{" a", "a", false, flow.ErrProc, 0},
		{"a ", "a", false, flow.ErrProc, 1},
		{".a-", "a", false, flow.ErrProc, 2},
		{".-a", "a", false, flow.ErrProc, 1},
		{"*\x00", "a", false, flow.ErrProc, 1},
		{"*\xff", "a", false, flow.ErrProc, 1},
		{"\u00e9", "a", false, flow.ErrProc, 0},
		{"a\u00e9", "a", false, flow.ErrProc, 1},
		{"(a)", "a", false, flow.ErrProc, 0},
		// of two faults the first
		{"ab?", "a", false, flow.ErrProc, 1},
		{".?", "a", false, flow.ErrProc, 1},
	})
}

// TestP10EveryByte tells for each byte whether it can stand behind a sign.
func TestP10EveryByte(t *testing.T) {
	for b := 0; b < 256; b++ {
		c := acceptsCase{"*" + string([]byte{byte(b)}), "", false, flow.ErrProc, 1}
		if strings.IndexByte(".+&*", byte(b)) >= 0 {
			c.place = 2
		}
		if b >= 'a' && b <= 'z' {
			c = acceptsCase{c.proc, "", true, flow.OK, 0}
		}
		runAcceptsCases(t, []acceptsCase{c})
	}
}

// TestP10PlacesAgainstPlainReading looks up whether a text is a process, or the
// beginning of one, in a list of processes: a beginning may lack one task more
// than it is long.
func TestP10PlacesAgainstPlainReading(t *testing.T) {
	const most = 4
	whole, begun := map[string]bool{}, map[string]bool{}
	for n := 1; n <= 2*most+1; n++ {
		for _, proc := range processes(n) {
			whole[proc] = true
			for i := range min(n, most) {
				begun[proc[:i+1]] = true
			}
		}
	}
	for _, text := range textsInOrder([]string{"x", ".", "+", "&", "*", "-"}, most) {
		place := 0
		for place < len(text) && begun[text[:place+1]] {
			place++
		}
		c := acceptsCase{text, "y", false, flow.ErrProc, place}
		if whole[text] {
			c = acceptsCase{text, "y", false, flow.OK, 0}
		}
		runAcceptsCases(t, []acceptsCase{c})
	}
}

func TestP10Large(t *testing.T) {
	runAcceptsCases(t, []acceptsCase{
		{"*******a", "a", true, flow.OK, 0},
		{"********a", "a", false, flow.ErrLarge, 0},
		{"...abc.*", "a", false, flow.ErrProc, 8},
		{"...abc*d", "abcdd", true, flow.OK, 0},
		{"....abcde", "abcde", false, flow.ErrLarge, 0},
		{"&&&&abcde", "abcde", false, flow.ErrLarge, 0},
		{strings.Repeat("*", 23) + "a", "a", false, flow.ErrLarge, 0},
		{strings.Repeat(".a", 11) + "*a", "a", false, flow.ErrLarge, 0},
		// no process goes ahead of a large one, a large one ahead of no word
		{"********", "a", false, flow.ErrProc, 8},
		{"********aa", "a", false, flow.ErrProc, 9},
		{"********-", "a", false, flow.ErrProc, 8},
		{"********a", "-", false, flow.ErrLarge, 0},
	})
}

func TestP10Word(t *testing.T) {
	cases := []acceptsCase{
		{"a", "-", false, flow.ErrWord, 0},
		{"a", "a-", false, flow.ErrWord, 1},
		{"a", "a--", false, flow.ErrWord, 1},
		{"a", "aA", false, flow.ErrWord, 1},
		{"*a", "aaaaaaa*", false, flow.ErrWord, 7},
		{"*a", "zzzz\u00e9", false, flow.ErrWord, 4},
		{"*a", "\u00e9", false, flow.ErrWord, 0},
		{".a", "-", false, flow.ErrProc, 2},
		{"", "a-", false, flow.ErrProc, 0},
		{"*-", "a-", false, flow.ErrProc, 1},
	}
	for b := 0; b < 256; b++ {
		c := acceptsCase{"*+az", string([]byte{'a', byte(b)}), b == 'a' || b == 'z', flow.OK, 0}
		if b < 'a' || b > 'z' {
			c.errno, c.place = flow.ErrWord, 1
		}
		cases = append(cases, c)
	}
	runAcceptsCases(t, cases)
}

func TestP10Long(t *testing.T) {
	far := strings.Repeat("a", 10_000_000)
	runAcceptsCases(t, []acceptsCase{
		{"*a", far[:8], true, flow.OK, 0},
		{"*a", far[:9], false, flow.ErrLong, 0},
		{"*a", far, false, flow.ErrLong, 0},
		{"*a", "---------", false, flow.ErrLong, 0},
		{far[:24], "a", false, flow.ErrProc, 1},
		{far[:25], "a", false, flow.ErrLong, 0},
		{far, "a", false, flow.ErrLong, 0},
		{strings.Repeat("-", 24), "a", false, flow.ErrProc, 0},
		{strings.Repeat("-", 25), "a", false, flow.ErrLong, 0},
		{strings.Repeat("*", 24) + "a", "a", false, flow.ErrLong, 0},
		{strings.Repeat("\u00e9", 12), "a", false, flow.ErrProc, 0},
		{strings.Repeat("\u00e9", 13), "a", false, flow.ErrLong, 0},
		// of any argument, ahead of every error of another
		{"", far[:9], false, flow.ErrLong, 0},
		{".a", far[:9], false, flow.ErrLong, 0},
		{"********a", far[:9], false, flow.ErrLong, 0},
		{far[:25], "-", false, flow.ErrLong, 0},
		{far, far, false, flow.ErrLong, 0},
	})
}

// acceptsAsPlain compares Accepts with a plain reading, at all of some words.
func acceptsAsPlain(t *testing.T, proc string, words []string) {
	t.Helper()
	most := 0
	for _, word := range words {
		most = max(most, len(word))
	}
	has := procWords(proc, most)
	for _, word := range words {
		runAcceptsCases(t, []acceptsCase{{proc, word, has[word], flow.OK, 0}})
	}
}

func TestP10EveryProcessAgainstPlainReading(t *testing.T) {
	some := textsInOrder([]string{"a", "b"}, 6)
	more := textsInOrder([]string{"a", "b", "c", "d"}, 4)
	for n := 1; n <= 8; n++ {
		for _, proc := range processes(n) {
			acceptsAsPlain(t, named(proc, "abcd"), more)
			acceptsAsPlain(t, named(proc, "ab"), some)
		}
	}
}

func TestP10LongWordsAgainstPlainReading(t *testing.T) {
	words := textsInOrder([]string{"a", "b"}, 8)
	for n := 1; n <= 6; n++ {
		for _, proc := range processes(n) {
			acceptsAsPlain(t, named(proc, "ab"), words)
			acceptsAsPlain(t, named(proc, "aab"), words)
		}
	}
}
