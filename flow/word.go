package flow

const maxWord = 8 // bytes of a word

func isLetter(b byte) bool {
	return b >= 'a' && b <= 'z'
}

// firstNoLetter is the first byte that keeps a text from being a word; the
// text's length, if there is none.
func firstNoLetter(text string) int {
	at := 0
	for at < len(text) && isLetter(text[at]) {
		at++
	}
	return at
}

// playsWord tells whether a run that has ended spells the word. It keeps all
// markings that runs come to that spell what has been read of the word, with
// silent steps behind it as well.
func playsWord(net workNet, word string) bool {
	quiet := labelled(net.trans, silent)
	found := explore(quiet, placeBit(net.start))
	for at := 0; at < len(word); at++ {
		spelled := labelled(net.trans, word[at])
		found.stepOn(spelled)
		found.spread(quiet)
	}
	return found.has(placeBit(net.end))
}

// labelled is the transitions that have a label.
func labelled(trans []transition, label byte) []transition {
	var some []transition
	for number := 0; number < len(trans); number++ {
		if trans[number].label == label {
			some = append(some, trans[number])
		}
	}
	return some
}
