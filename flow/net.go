package flow

const (
	maxNet   = 160 // bytes of a net
	maxTrans = 16  // transitions of a net
)

const (
	firstPlace = 'A'
	lastPlace  = 'P'
)

// silent is the label of a transition that adds nothing to a word.
const silent = '-'

// A transition keeps its places as sets: ints with a bit for each place, that
// of the first place the lowest, so that a marking and a transition's places
// meet in one operation.
type transition struct {
	label byte
	takes int
	puts  int
}

// A workNet is a net that has been read.
type workNet struct {
	start byte
	end   byte
	trans []transition
}

func isPlace(b byte) bool {
	return b >= firstPlace && b <= lastPlace
}

func isLabel(b byte) bool {
	return b == silent || isLetter(b)
}

// placeBit is the set of one place; a byte that is no place gives the empty set.
func placeBit(place byte) int {
	if !isPlace(place) {
		return 0
	}
	return 1 << (place - firstPlace)
}

// readNet reads a whole text. The last number is the place that Check tells.
func readNet(text string) (workNet, Errno, int) {
	if len(text) > maxNet {
		return workNet{}, ErrLong, 0
	}
	if len(text) < 1 || !isPlace(text[0]) {
		return workNet{}, ErrNet, 0
	}
	if len(text) < 2 || !isPlace(text[1]) || text[1] == text[0] {
		return workNet{}, ErrNet, 1
	}
	trans, at, whole := readTransitions(text, 2)
	if !whole {
		return workNet{}, ErrNet, at
	}
	read := workNet{start: text[0], end: text[1], trans: trans}
	wrong := firstWrongWay(text, read.start, read.end)
	if wrong < len(text) {
		return workNet{}, ErrShape, wrong
	}
	return read, OK, 0
}

// readTransitions reads from at on to the end of the text. Where that fails,
// the number is the first byte that cannot stand there, or the text's length.
func readTransitions(text string, at int) ([]transition, int, bool) {
	var trans []transition
	for at < len(text) {
		if text[at] != ';' || len(trans) >= maxTrans {
			return trans, at, false
		}
		one, behind, whole := readTransition(text, at+1)
		at = behind
		if !whole {
			return trans, at, false
		}
		trans = append(trans, one)
	}
	return trans, at, true
}

// readTransition reads a transition from its label on. The number is the place
// behind what could be read.
func readTransition(text string, at int) (transition, int, bool) {
	if at >= len(text) || !isLabel(text[at]) {
		return transition{}, at, false
	}
	takes, arrow := readPlaces(text, at+1)
	if takes == 0 || arrow >= len(text) || text[arrow] != '>' {
		return transition{}, arrow, false
	}
	puts, behind := readPlaces(text, arrow+1)
	return transition{label: text[at], takes: takes, puts: puts}, behind, puts != 0
}

// readPlaces reads places as long as they rise, and tells their set and the
// place behind them. A place out of order is left unread: nothing that may
// follow places begins with one, so the caller refuses it there.
func readPlaces(text string, at int) (int, int) {
	set := 0
	last := byte(0)
	for at < len(text) && isPlace(text[at]) && text[at] > last {
		last = text[at]
		set = set | placeBit(last)
		at++
	}
	return set, at
}

// firstWrongWay finds the first byte of a net at which a transition takes from
// the end or puts to the start; the text's length, if there is none. It walks
// the text once more, since an error of the form anywhere goes first.
func firstWrongWay(text string, start byte, end byte) int {
	taking := false
	for at := 2; at < len(text); at++ {
		b := text[at]
		if b == ';' {
			taking = true
		}
		if b == '>' {
			taking = false
		}
		if taking && b == end {
			return at
		}
		if !taking && b == start {
			return at
		}
	}
	return len(text)
}
