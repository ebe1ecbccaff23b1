package flow

// A gap is two places: between them the process is to be laid that comes next.
type gap struct {
	from byte
	to   byte
}

// A compiler writes a net while it reads a process. Nothing that it lays into a
// gap of two different places puts to the first or takes from the second.
// So a way of a choice, once taken, can't be left for the other, and the net's
// start and end keep their shape.
//
// It never runs out of places or transitions: a process of maxNodes nodes has
// at most 3 signs with two processes behind them (and then 4 tasks and one `*`).
// A `&` costs 4 places and 2 transitions, a `*` one place and 2 transitions, a
// `.` one place, a task one transition. With the start and the end that makes
// at most 15 places, in 4 tasks, three `&` and one `*`, and at most 15
// transitions, in one task and seven `*`.
type compiler struct {
	text   []byte
	places int
	gaps   []gap
}

func compileProcess(proc string) string {
	var c compiler
	start := c.newPlace()
	end := c.newPlace()
	c.text = append(c.text, start, end)
	c.open(start, end)
	for at := 0; at < len(proc) && len(c.gaps) > 0; at++ {
		last := len(c.gaps) - 1
		next := c.gaps[last]
		c.gaps = c.gaps[:last]
		c.lay(proc[at], next)
	}
	return string(c.text)
}

func (c *compiler) newPlace() byte {
	place := firstPlace + byte(c.places)
	c.places++
	return place
}

// open adds a gap that is filled ahead of those that are open already.
func (c *compiler) open(from byte, to byte) {
	c.gaps = append(c.gaps, gap{from: from, to: to})
}

// lay fills a gap, or opens a gap for each process behind the sign: the second
// ahead of the first, as the last that was opened is filled next.
func (c *compiler) lay(sign byte, here gap) {
	switch sign {
	case inRow:
		middle := c.newPlace()
		c.open(middle, here.to)
		c.open(here.from, middle)
	case inChoice:
		c.open(here.from, here.to)
		c.open(here.from, here.to)
	case sideBySide:
		c.laySideBySide(here)
	case repeated:
		c.layRepeated(here)
	default:
		c.layStep(sign, here.from, here.to)
	}
}

func (c *compiler) layStep(label byte, from byte, to byte) {
	c.text = append(c.text, ';', label, from, '>', to)
}

// laySideBySide makes the places in the order in which transitions name them:
// each new place is above those before, and a net asks for rising order.
func (c *compiler) laySideBySide(here gap) {
	first := c.newPlace()
	second := c.newPlace()
	firstDone := c.newPlace()
	secondDone := c.newPlace()
	c.text = append(c.text, ';', silent, here.from, '>', first, second)
	c.text = append(c.text, ';', silent, firstDone, secondDone, '>', here.to)
	c.open(second, secondDone)
	c.open(first, firstDone)
}

// layRepeated turns round at a new place: at one of the gap's it would put to
// the first or take from the second.
func (c *compiler) layRepeated(here gap) {
	again := c.newPlace()
	c.layStep(silent, here.from, again)
	c.layStep(silent, again, here.to)
	c.open(again, again)
}
