// Package flow: workflow nets, a judge of them, and a compiler of processes: see DOC.md.
package flow

// Errno is what a call answers: OK or the reason for a refusal.
type Errno int

const (
	OK       Errno = 0
	ErrLong  Errno = 1  // a text above its bound
	ErrNet   Errno = 2  // no net
	ErrShape Errno = 3  // a transition puts to the start or takes from the end
	ErrSign  Errno = 4  // no transition's sign
	ErrIdle  Errno = 5  // the transition is not enabled
	ErrSpill Errno = 6  // a place would hold a second token
	ErrNever Errno = 7  // there is no such run
	ErrWord  Errno = 8  // no word
	ErrProc  Errno = 9  // no process
	ErrLarge Errno = 10 // the process has too many nodes
)

// The verdicts of Judge.
const (
	Sound    = 1
	Spills   = 2
	Improper = 3
	Stuck    = 4
	Dead     = 5
)

// Check tells whether a text is a net (P3).
func Check(net string) (Errno, int) {
	_, errno, place := readNet(net)
	return errno, place
}

// Fire plays a run (P4).
func Fire(net string, run string) (string, Errno, int) {
	_, marking, errno, place := playNet(net, run)
	if errno != OK {
		return "", errno, place
	}
	return placesOf(marking), OK, 0
}

// Judge tells whether a net is sound, and if it is not, shows why (P5).
func Judge(net string) (int, string, Errno) {
	read, errno, _ := readNet(net)
	if errno != OK {
		return 0, "", errno
	}
	verdict, text := judgeNet(read)
	return verdict, text, OK
}

// Finish tells the way from behind a run to the end (P6).
func Finish(net string, run string) (string, Errno) {
	read, marking, errno, _ := playNet(net, run)
	if errno != OK {
		return "", errno
	}
	found := explore(read.trans, marking)
	at := found.endVisit(read)
	if at < 0 {
		return "", ErrNever
	}
	return string(found.runTo(at)), OK
}

// Enable tells a run to a transition (P7).
func Enable(net string, step string) (string, Errno) {
	// A net too long is found by readNet; a step too long goes ahead of its other errors.
	if len(step) > maxRun {
		return "", ErrLong
	}
	read, errno, _ := readNet(net)
	if errno != OK {
		return "", errno
	}
	if len(step) != 1 {
		return "", ErrSign
	}
	number := transitionOf(read, step[0])
	if number < 0 {
		return "", ErrSign
	}
	found := explore(read.trans, placeBit(read.start))
	at := found.firstStep(read.trans[number])
	if at < 0 {
		return "", ErrNever
	}
	return found.runAndStep(at, number), OK
}

// Plays tells whether a net has a word (P9).
func Plays(net string, word string) (bool, Errno) {
	// A net too long is found by readNet; a word too long goes ahead of its other errors.
	if len(word) > maxWord {
		return false, ErrLong
	}
	read, errno, _ := readNet(net)
	if errno != OK {
		return false, errno
	}
	if firstNoLetter(word) < len(word) {
		return false, ErrWord
	}
	return playsWord(read, word), OK
}

// Accepts tells whether a process has a word (P10).
func Accepts(proc string, word string) (bool, Errno, int) {
	// A process too long is found by readProcess; a word too long goes ahead of its other errors.
	if len(word) > maxWord {
		return false, ErrLong, 0
	}
	errno, place := readProcess(proc)
	if errno != OK {
		return false, errno, place
	}
	place = firstNoLetter(word)
	if place < len(word) {
		return false, ErrWord, place
	}
	return acceptsWord(proc, word), OK, 0
}

// Compile answers a sound net with the process's words (P11).
func Compile(proc string) (string, Errno, int) {
	errno, place := readProcess(proc)
	if errno != OK {
		return "", errno, place
	}
	return compileProcess(proc), OK, 0
}
