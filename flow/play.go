package flow

const maxRun = 65536 // steps of a run

// signNumber is the number that a sign stands for, or -1.
func signNumber(sign byte) int {
	if sign >= '0' && sign <= '9' {
		return int(sign - '0')
	}
	if sign >= 'A' && sign <= 'F' {
		return int(sign-'A') + 10
	}
	return -1
}

// transitionOf is the number of the net's transition that has a sign, or -1.
func transitionOf(net workNet, sign byte) int {
	number := signNumber(sign)
	if number >= len(net.trans) {
		return -1
	}
	return number
}

// signOf is the sign of a transition.
func signOf(number int) byte {
	if number < 10 {
		return '0' + byte(number)
	}
	return 'A' + byte(number-10)
}

// fireAt fires one transition at a marking. Beside an error the marking is empty.
func fireAt(t transition, marking int) (int, Errno) {
	if marking&t.takes != t.takes {
		return 0, ErrIdle
	}
	// A place that is both taken from and put to holds no token in between,
	// so it does not spill.
	left := marking &^ t.takes
	if left&t.puts != 0 {
		return 0, ErrSpill
	}
	return left | t.puts, OK
}

// playNet reads a net and plays a run at it. Beside an error the last number is
// the place that Fire tells.
func playNet(net string, run string) (workNet, int, Errno, int) {
	// A net too long is found by readNet; a run too long goes ahead of its other errors.
	if len(run) > maxRun {
		return workNet{}, 0, ErrLong, 0
	}
	read, errno, place := readNet(net)
	if errno != OK {
		return workNet{}, 0, errno, place
	}
	marking, errno, place := playRun(read, run)
	return read, marking, errno, place
}

// playRun plays a run from the first marking on. Beside an error the last
// number is that of the first step that is none.
func playRun(net workNet, run string) (int, Errno, int) {
	marking := placeBit(net.start)
	for at := 0; at < len(run); at++ {
		number := transitionOf(net, run[at])
		if number < 0 {
			return 0, ErrSign, at
		}
		next, errno := fireAt(net.trans[number], marking)
		if errno != OK {
			return 0, errno, at
		}
		marking = next
	}
	return marking, OK, 0
}

// placesOf writes a marking as a text, in rising order.
func placesOf(marking int) string {
	var text []byte
	for place := byte(firstPlace); place <= lastPlace; place++ {
		if marking&placeBit(place) != 0 {
			text = append(text, place)
		}
	}
	return string(text)
}
