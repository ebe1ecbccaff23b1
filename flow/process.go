package flow

const (
	maxProc  = 24 // bytes of a process
	maxNodes = 8  // nodes of a process
)

// The signs of a process that are no tasks.
const (
	inRow      = '.'
	inChoice   = '+'
	sideBySide = '&'
	repeated   = '*'
)

// partsBehind is how many processes stand behind a sign; -1, if it is no sign
// of a process.
func partsBehind(sign byte) int {
	switch sign {
	case inRow, inChoice, sideBySide:
		return 2
	case repeated:
		return 1
	}
	if isLetter(sign) {
		return 0
	}
	return -1
}

// readProcess tells whether a text is a process of few enough nodes. The number
// is the place that Accepts and Compile tell.
func readProcess(text string) (Errno, int) {
	if len(text) > maxProc {
		return ErrLong, 0
	}
	missing := 1
	for at := 0; at < len(text); at++ {
		parts := partsBehind(text[at])
		if missing == 0 || parts < 0 {
			return ErrProc, at
		}
		missing = missing - 1 + parts
	}
	if missing > 0 {
		return ErrProc, len(text)
	}
	// Each byte of a process is a node.
	if len(text) > maxNodes {
		return ErrLarge, 0
	}
	return OK, 0
}
