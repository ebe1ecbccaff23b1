package flow

// markingCount is how many markings there may be: each set of places is a number below it.
const markingCount = 1 << (lastPlace - firstPlace + 1)

// A visit is a marking that a search has come to: from which earlier visit, and
// by which transition. The first visit has neither.
type visit struct {
	marking int
	before  int
	number  int
}

// A search holds each marking that can be reached once, in the order of the
// first runs to them.
type search struct {
	visits []visit
	seen   []bool
}

// explore searches all that can be reached from a marking. Since earlier visits
// go first and at each the lower transition goes first, a marking is met first
// at the end of the first run to it. It ends, as no marking is visited twice.
func explore(trans []transition, from int) search {
	found := search{seen: make([]bool, markingCount)}
	found.visit(from, 0, 0)
	found.spread(trans)
	return found
}

// spread goes on from all that has been visited.
func (s *search) spread(trans []transition) {
	for at := 0; at < len(s.visits); at++ {
		marking := s.visits[at].marking
		s.visitNext(trans, marking, at)
	}
}

// stepOn visits all that one step leads to from what has been visited, in its
// stead: the visits no longer tell runs then.
func (s *search) stepOn(trans []transition) {
	before := s.visits
	s.visits = nil
	for at := 0; at < len(before); at++ {
		if s.has(before[at].marking) {
			s.seen[before[at].marking] = false
		}
	}
	for at := 0; at < len(before); at++ {
		s.visitNext(trans, before[at].marking, 0)
	}
}

// visitNext visits all that one step leads to.
func (s *search) visitNext(trans []transition, marking int, before int) {
	for number := 0; number < len(trans); number++ {
		next, errno := fireAt(trans[number], marking)
		if errno == OK {
			s.visit(next, before, number)
		}
	}
}

func (s *search) visit(marking int, before int, number int) {
	if marking < 0 || marking >= len(s.seen) || s.seen[marking] {
		return
	}
	s.seen[marking] = true
	s.visits = append(s.visits, visit{marking: marking, before: before, number: number})
}

func (s *search) has(marking int) bool {
	return marking >= 0 && marking < len(s.seen) && s.seen[marking]
}

// runTo is the first run to a visit. It ends, as each visit stands behind the
// one that it came from.
func (s *search) runTo(at int) []byte {
	var back []byte
	for at > 0 && at < len(s.visits) {
		back = append(back, signOf(s.visits[at].number))
		at = s.visits[at].before
	}
	var run []byte
	for i := len(back) - 1; i >= 0; i-- {
		run = append(run, back[i])
	}
	return run
}

// runAndStep is the first run to a visit with one sign behind.
func (s *search) runAndStep(at int, number int) string {
	run := s.runTo(at)
	run = append(run, signOf(number))
	return string(run)
}

// endVisit is the visit of the end alone, or -1.
func (s *search) endVisit(net workNet) int {
	for at := 0; at < len(s.visits); at++ {
		if s.visits[at].marking == placeBit(net.end) {
			return at
		}
	}
	return -1
}

// firstStep is the first visit at which a transition fires without spilling, or -1.
func (s *search) firstStep(t transition) int {
	for at := 0; at < len(s.visits); at++ {
		_, errno := fireAt(t, s.visits[at].marking)
		if errno == OK {
			return at
		}
	}
	return -1
}
