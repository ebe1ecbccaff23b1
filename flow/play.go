package flow

const maxRun = 65536 // steps of a run

// signNumber is the number of the transition that a sign stands for, or -1.
func signNumber(sign byte) int {
	if sign >= '0' && sign <= '9' {
		return int(sign - '0')
	}
	if sign >= 'A' && sign <= 'F' {
		return int(sign-'A') + 10
	}
	return -1
}

// fireAt fires one transition at a marking. Beside an error the marking is empty.
func fireAt(t transition, marking int) (int, Errno) {
	if marking&t.takes != t.takes {
		return 0, ErrIdle
	}
	// A place that is both taken from and put to holds no token in between,
	// so it does not spill.
	left := marking &^ t.takes
	if left&t.puts != 0 {
		return 0, ErrSpill
	}
	return left | t.puts, OK
}

// playRun plays a run from the first marking on. Beside an error the last
// number is that of the first step that is none.
func playRun(net workNet, run string) (int, Errno, int) {
	marking := placeBit(net.start)
	for at := 0; at < len(run); at++ {
		number := signNumber(run[at])
		if number < 0 || number >= len(net.trans) {
			return 0, ErrSign, at
		}
		next, errno := fireAt(net.trans[number], marking)
		if errno != OK {
			return 0, errno, at
		}
		marking = next
	}
	return marking, OK, 0
}

// placesOf writes a marking as a text, in rising order.
func placesOf(marking int) string {
	var text []byte
	for place := byte(firstPlace); place <= lastPlace; place++ {
		if marking&placeBit(place) != 0 {
			text = append(text, place)
		}
	}
	return string(text)
}
