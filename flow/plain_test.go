package flow_test

import (
	"fmt"
	"strings"

	"flow/flow"
)

// lower tells whether of two runs a is the first: the shorter, else the lower.
func lower(a string, b string) bool {
	if len(a) != len(b) {
		return len(a) < len(b)
	}
	return a < b
}

// signsOf is the signs of a net's transitions.
func signsOf(net string) []string {
	n := strings.Count(net, ";")
	return strings.Split("0123456789ABCDEF"[:n], "")[:n]
}

// firstRuns tells for each marking that can be reached behind a run the first
// text that leads to it. It betters the texts until none gets better, whatever
// the order in which they are found.
func firstRuns(net string, run string) map[string]string {
	from, errno, _ := plainFire(net, run)
	if errno != flow.OK {
		return nil
	}
	first := map[string]string{from: ""}
	for changed := true; changed; {
		changed = false
		for _, text := range first {
			for _, sign := range signsOf(net) {
				marking, errno, _ := plainFire(net, run+text+sign)
				if errno != flow.OK {
					continue
				}
				known, ok := first[marking]
				if !ok || lower(text+sign, known) {
					first[marking] = text + sign
					changed = true
				}
			}
		}
	}
	return first
}

// lowest is the first of the texts, and whether there is one.
func lowest(texts []string) (string, bool) {
	for _, text := range texts {
		better := false
		for _, other := range texts {
			better = better || lower(other, text)
		}
		if !better {
			return text, true
		}
	}
	return "", false
}

// plainJudge is P5 word by word, for nets at which Check answers OK.
func plainJudge(net string) (int, string) {
	end := net[1:2]
	enabled := map[string]bool{}
	var spills, improper, stuck []string
	for marking, run := range firstRuns(net, "") {
		for _, sign := range signsOf(net) {
			_, errno, _ := plainFire(net, run+sign)
			if errno == flow.ErrSpill {
				spills = append(spills, run+sign)
			}
			if errno != flow.ErrIdle {
				enabled[sign] = true
			}
		}
		if strings.Contains(marking, end) && marking != end {
			improper = append(improper, run)
		}
		if _, ok := firstRuns(net, run)[end]; !ok {
			stuck = append(stuck, run)
		}
	}
	for i, texts := range [][]string{spills, improper, stuck} {
		if text, ok := lowest(texts); ok {
			return []int{flow.Spills, flow.Improper, flow.Stuck}[i], text
		}
	}
	for _, sign := range signsOf(net) {
		if !enabled[sign] {
			return flow.Dead, sign
		}
	}
	return flow.Sound, ""
}

// plainFinish is P6, for nets at which Check answers OK and runs of theirs.
func plainFinish(net string, run string) (string, flow.Errno) {
	text, ok := firstRuns(net, run)[net[1:2]]
	if !ok {
		return "", flow.ErrNever
	}
	return text, flow.OK
}

// plainEnable is P7, for nets at which Check answers OK and signs of theirs.
func plainEnable(net string, sign string) (string, flow.Errno) {
	var runs []string
	for _, run := range firstRuns(net, "") {
		if _, errno, _ := plainFire(net, run+sign); errno == flow.OK {
			runs = append(runs, run+sign)
		}
	}
	text, ok := lowest(runs)
	if !ok {
		return "", flow.ErrNever
	}
	return text, flow.OK
}

// subsets is every set of at least one of the places, each in rising order.
func subsets(places string) []string {
	var sets []string
	for bits := 1; bits < 1<<len(places); bits++ {
		set := ""
		for i := range places {
			if bits>>i&1 != 0 {
				set += places[i : i+1]
			}
		}
		sets = append(sets, set)
	}
	return sets
}

// smallNets is every net of at most two transitions with start B, end C and no
// place above D.
func smallNets() []string {
	nets := []string{"BC"}
	for at := 0; at < len(nets); at++ {
		if strings.Count(nets[at], ";") == 2 {
			continue
		}
		for _, takes := range subsets("ABD") {
			for _, puts := range subsets("ACD") {
				nets = append(nets, nets[at]+";a"+takes+">"+puts)
			}
		}
	}
	return nets
}

// counter answers numbers below a bound by a fixed rule: that they are the same
// each time keeps a fault in sight.
func counter(state uint32) func(int) int {
	return func(bound int) int {
		state = state*1664525 + 1013904223
		return int(state>>16) % bound
	}
}

// mixedNets is n nets of three to eight transitions, of few places each.
func mixedNets(n int) []string {
	below := counter(1)
	pick := func(places string) string {
		few := ""
		for few == "" {
			for i := range places {
				if below(3) == 0 {
					few += places[i : i+1]
				}
			}
		}
		return few
	}
	var nets []string
	for i := range n {
		net := "AF;-A>" + pick("BCDE")
		for range 2 + i%6 {
			net += fmt.Sprintf(";%c%s>%s", "-ab"[below(3)], pick("BCDE"), pick("BCDEF"))
		}
		nets = append(nets, net)
	}
	return nets
}

// A blockNet lays together nets that are sound by the way they are built:
// between two places stands a step, or blocks in a row, in choice, side by side
// or with a way back.
type blockNet struct {
	below  func(int) int
	places int
	trans  []string
}

func (b *blockNet) place() string {
	b.places++
	return string(rune('B' + b.places))
}

func (b *blockNet) step(takes string, puts string) {
	b.trans = append(b.trans, fmt.Sprintf(";%c%s>%s", "-abc"[b.below(4)], takes, puts))
}

func (b *blockNet) block(from string, to string, size int) {
	if size < 2 {
		b.step(from, to)
		return
	}
	part := 1 + b.below(size-1)
	switch b.below(4) {
	case 0:
		middle := b.place()
		b.block(from, middle, part)
		b.block(middle, to, size-part)
	case 1:
		b.block(from, to, part)
		b.block(from, to, size-part)
	case 2:
		left, right := b.place(), b.place()
		leftEnd, rightEnd := b.place(), b.place()
		b.step(from, left+right)
		b.block(left, leftEnd, part)
		b.block(right, rightEnd, size-part)
		b.step(leftEnd+rightEnd, to)
	case 3:
		again := b.place()
		b.step(from, again)
		b.block(again, again, part)
		b.block(again, to, size-part)
	}
}

// blockNets is n sound nets.
func blockNets(n int) []string {
	var nets []string
	for below := counter(7); len(nets) < n; {
		b := blockNet{below: below}
		b.block("A", "B", 2+below(5))
		if b.places > 14 || len(b.trans) > 16 {
			continue
		}
		net := "AB"
		// in mixed order, so that the lowest sign is not always the nearest step
		for len(b.trans) > 0 {
			at := below(len(b.trans))
			net += b.trans[at]
			b.trans = append(b.trans[:at], b.trans[at+1:]...)
		}
		nets = append(nets, net)
	}
	return nets
}

// lameNets is the nets with one transition left out, or with a place more that
// one takes or puts.
func lameNets(nets []string) []string {
	var lame []string
	for _, net := range nets {
		parts := strings.Split(net, ";")
		for i := 1; i < len(parts); i++ {
			ahead := strings.Join(parts[:i], ";")
			behind := strings.Join(append([]string{""}, parts[i+1:]...), ";")
			lame = append(lame, ahead+behind)
			if !strings.Contains(parts[i], "P") {
				lame = append(lame, ahead+";"+parts[i]+"P"+behind)
			}
			takes, puts, _ := strings.Cut(parts[i], ">")
			if takes[len(takes)-1] < 'C' {
				lame = append(lame, ahead+";"+takes+"C>"+puts+behind)
			}
		}
	}
	return lame
}
