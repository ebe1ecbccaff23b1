package flow_test

import (
	"maps"
	"slices"
	"strings"

	"flow/flow"
)

// An edge is a step from one marking to another.
type edge struct {
	label string
	to    string
}

// edgesOf tells for each marking that can be reached the steps from it, for
// nets at which Check answers OK.
func edgesOf(net string) map[string][]edge {
	parts := strings.Split(net, ";")
	edges := map[string][]edge{}
	for marking, run := range firstRuns(net, "") {
		edges[marking] = []edge{}
		for i, sign := range signsOf(net) {
			to, errno, _ := plainFire(net, run+sign)
			if errno == flow.OK {
				edges[marking] = append(edges[marking], edge{parts[i+1][:1], to})
			}
		}
	}
	return edges
}

// netWords is every word of a net that has at most so many letters: it follows
// all runs, but none twice at one marking with one word.
func netWords(net string, most int) map[string]bool {
	type spelled struct{ marking, word string }
	edges := edgesOf(net)
	words := map[string]bool{}
	list := []spelled{{net[:1], ""}}
	seen := map[spelled]bool{list[0]: true}
	for at := 0; at < len(list); at++ {
		if list[at].marking == net[1:2] {
			words[list[at].word] = true
		}
		for _, e := range edges[list[at].marking] {
			next := spelled{e.to, list[at].word + strings.Trim(e.label, "-")}
			if len(next.word) <= most && !seen[next] {
				seen[next] = true
				list = append(list, next)
			}
		}
	}
	return words
}

// parts cuts a process that has a sign ahead into the processes behind it.
func parts(proc string) []string {
	var cut []string
	for rest := proc[1:]; rest != ""; {
		missing, n := 1, 0
		for missing > 0 {
			missing += strings.Count(".+&", rest[n:n+1])
			missing -= strings.Count("abcdefghijklmnopqrstuvwxyz", rest[n:n+1])
			n++
		}
		cut = append(cut, rest[:n])
		rest = rest[n:]
	}
	return cut
}

// mixes is two words mixed in all ways.
func mixes(a string, b string) []string {
	if a == "" || b == "" {
		return []string{a + b}
	}
	var words []string
	for _, rest := range mixes(a[1:], b) {
		words = append(words, a[:1]+rest)
	}
	for _, rest := range mixes(a, b[1:]) {
		words = append(words, b[:1]+rest)
	}
	return words
}

// procWords is every word of a process that has at most so many letters.
func procWords(proc string, most int) map[string]bool {
	words := map[string]bool{}
	switch proc[0] {
	case '.', '&':
		second := procWords(parts(proc)[1], most)
		for a := range procWords(parts(proc)[0], most) {
			for b := range second {
				if len(a)+len(b) <= most {
					addWords(words, proc[0], a, b)
				}
			}
		}
	case '+':
		maps.Copy(words, procWords(parts(proc)[0], most))
		maps.Copy(words, procWords(parts(proc)[1], most))
	case '*':
		once := procWords(parts(proc)[0], most)
		words[""] = true
		for grown := true; grown; {
			before := len(words)
			for a := range maps.Clone(words) {
				for b := range once {
					if len(a)+len(b) <= most {
						words[a+b] = true
					}
				}
			}
			grown = len(words) > before
		}
	default:
		words[proc] = true
		if most < 1 {
			delete(words, proc)
		}
	}
	return words
}

func addWords(words map[string]bool, sign byte, a string, b string) {
	if sign == '.' {
		words[a+b] = true
		return
	}
	for _, word := range mixes(a, b) {
		words[word] = true
	}
}

// processes is every process of n nodes whose tasks are x.
func processes(n int) []string {
	if n == 1 {
		return []string{"x"}
	}
	var procs []string
	if n > 1 {
		for _, body := range processes(n - 1) {
			procs = append(procs, "*"+body)
		}
	}
	for left := 1; left < n-1; left++ {
		seconds := processes(n - 1 - left)
		for _, first := range processes(left) {
			for _, second := range seconds {
				procs = append(procs, "."+first+second, "+"+first+second, "&"+first+second)
			}
		}
	}
	return procs
}

// named names the tasks of a process in their order, over and over with these letters.
func named(proc string, letters string) string {
	text := ""
	tasks := 0
	for i := range proc {
		if proc[i] == 'x' {
			text += letters[tasks%len(letters):][:1]
			tasks++
		} else {
			text += proc[i : i+1]
		}
	}
	return text
}

// The rest of a process is what may still come when a word of it has begun. It
// is written as a process, with 1 for one that has no word but the empty one.

// mayEnd tells whether the empty word is one of a rest.
func mayEnd(rest string) bool {
	switch rest[0] {
	case '1', '*':
		return true
	case '.', '&':
		return mayEnd(restParts(rest)[0]) && mayEnd(restParts(rest)[1])
	case '+':
		return mayEnd(restParts(rest)[0]) || mayEnd(restParts(rest)[1])
	}
	return false
}

// restParts is parts for a rest.
func restParts(rest string) []string {
	cut := parts(strings.ReplaceAll(rest, "1", "z"))
	at := 1
	for i := range cut {
		cut[i] = rest[at : at+len(cut[i])]
		at += len(cut[i])
	}
	return cut
}

// joined is two rests with a sign ahead, but without a 1 that changes nothing.
func joined(sign string, a string, b string) string {
	if a == "1" {
		return b
	}
	if b == "1" {
		return a
	}
	return sign + a + b
}

// restsBehind is what may come of a rest once a letter of it has come.
func restsBehind(rest string, letter string) []string {
	var rests []string
	switch rest[0] {
	case '.':
		first, second := restParts(rest)[0], restParts(rest)[1]
		for _, r := range restsBehind(first, letter) {
			rests = append(rests, joined(".", r, second))
		}
		if mayEnd(first) {
			rests = append(rests, restsBehind(second, letter)...)
		}
	case '+':
		for _, part := range restParts(rest) {
			rests = append(rests, restsBehind(part, letter)...)
		}
	case '&':
		first, second := restParts(rest)[0], restParts(rest)[1]
		for _, r := range restsBehind(first, letter) {
			rests = append(rests, joined("&", r, second))
		}
		for _, r := range restsBehind(second, letter) {
			rests = append(rests, joined("&", first, r))
		}
	case '*':
		for _, r := range restsBehind(restParts(rest)[0], letter) {
			rests = append(rests, joined(".", r, rest))
		}
	case letter[0]:
		rests = append(rests, "1")
	}
	return rests
}

// quietly adds to markings all that silent steps come to, and sorts them.
func quietly(edges map[string][]edge, markings []string) []string {
	for at := 0; at < len(markings); at++ {
		for _, e := range edges[markings[at]] {
			if e.label == "-" && !slices.Contains(markings, e.to) {
				markings = append(markings, e.to)
			}
		}
	}
	slices.Sort(markings)
	return slices.Compact(markings)
}

// differingWord is a word that only one of a net and a process has; none, of
// any length, if the answer is false. It goes over all that words may come to
// on both sides at once, and on each side that is a finite number of sets.
func differingWord(net string, proc string) (string, bool) {
	type both struct {
		word     string
		markings []string
		rests    []string
	}
	edges := edgesOf(net)
	list := []both{{"", quietly(edges, []string{net[:1]}), []string{proc}}}
	seen := map[string]bool{}
	for at := 0; at < len(list); at++ {
		here := list[at]
		if slices.Contains(here.markings, net[1:2]) != slices.ContainsFunc(here.rests, mayEnd) {
			return here.word, true
		}
		for _, letter := range lettersOf(net + proc) {
			next := both{word: here.word + letter}
			for _, marking := range here.markings {
				for _, e := range edges[marking] {
					if e.label == letter {
						next.markings = append(next.markings, e.to)
					}
				}
			}
			next.markings = quietly(edges, next.markings)
			for _, rest := range here.rests {
				next.rests = append(next.rests, restsBehind(rest, letter)...)
			}
			slices.Sort(next.rests)
			next.rests = slices.Compact(next.rests)
			key := strings.Join(next.markings, " ") + "|" + strings.Join(next.rests, " ")
			if !seen[key] {
				seen[key] = true
				list = append(list, next)
			}
		}
	}
	return "", false
}

// lettersOf is the letters a to z that a text has.
func lettersOf(text string) []string {
	var letters []string
	for _, letter := range strings.Split("abcdefghijklmnopqrstuvwxyz", "") {
		if strings.Contains(text, letter) {
			letters = append(letters, letter)
		}
	}
	return letters
}
