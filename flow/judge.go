package flow

// judgeNet tries the verdicts in their order; each may count on those before it
// not to hold.
func judgeNet(net workNet) (int, string) {
	found := explore(net.trans, placeBit(net.start))
	at, number := firstSpill(net, &found)
	if at >= 0 {
		return Spills, found.runAndStep(at, number)
	}
	at = firstImproper(net, &found)
	if at >= 0 {
		return Improper, string(found.runTo(at))
	}
	at = firstStuck(net, &found)
	if at >= 0 {
		return Stuck, string(found.runTo(at))
	}
	number = firstDead(net, &found)
	if number >= 0 {
		return Dead, string([]byte{signOf(number)})
	}
	return Sound, ""
}

// firstSpill is the first visit at which a transition spills, and the lowest
// such transition there; -1, if there is none.
func firstSpill(net workNet, found *search) (int, int) {
	for at := 0; at < len(found.visits); at++ {
		for number := 0; number < len(net.trans); number++ {
			_, errno := fireAt(net.trans[number], found.visits[at].marking)
			if errno == ErrSpill {
				return at, number
			}
		}
	}
	return -1, -1
}

// firstImproper is the first visit with the end and another place, or -1.
func firstImproper(net workNet, found *search) int {
	end := placeBit(net.end)
	for at := 0; at < len(found.visits); at++ {
		marking := found.visits[at].marking
		if marking&end != 0 && marking != end {
			return at
		}
	}
	return -1
}

// firstStuck is the first visit from which the end alone cannot be reached, or
// -1. One search back from the end finds all markings from which it can.
func firstStuck(net workNet, found *search) int {
	ending := explore(turned(net.trans), placeBit(net.end))
	for at := 0; at < len(found.visits); at++ {
		if !ending.has(found.visits[at].marking) {
			return at
		}
	}
	return -1
}

// turned exchanges what transitions take and put. Such a transition leads from
// one marking to another where the plain one leads back: a step leaves some
// places as they are, and those meet neither the ones that it takes nor, since
// it does not spill, the ones that it puts.
func turned(trans []transition) []transition {
	var back []transition
	for number := 0; number < len(trans); number++ {
		one := trans[number]
		back = append(back, transition{takes: one.puts, puts: one.takes})
	}
	return back
}

// firstDead is the lowest transition that is enabled nowhere, or -1. Where one
// is enabled it fires, as by now nothing spills.
func firstDead(net workNet, found *search) int {
	for number := 0; number < len(net.trans); number++ {
		if found.firstStep(net.trans[number]) < 0 {
			return number
		}
	}
	return -1
}
