package flow

const partCount = 1 << maxWord

// A partSet says of each part of one word whether a process has it as a word. A
// part is any choice of the word's letters in their order, since what stands
// side by side shares the letters out: an int with a bit for each letter, that
// of the first letter the lowest.
type partSet [partCount]bool

// A partStack holds the partSets of processes whose sign ahead is still to be read.
type partStack struct {
	sets []partSet
}

func (s *partStack) push(set partSet) {
	s.sets = append(s.sets, set)
}

func (s *partStack) pop() partSet {
	last := len(s.sets) - 1
	if last < 0 {
		return partSet{}
	}
	set := s.sets[last]
	s.sets = s.sets[:last]
	return set
}

// acceptsWord reads the process from behind, so that at each sign the partSets
// of the processes behind it lie on the stack, that of the first on top.
func acceptsWord(proc string, word string) bool {
	whole := wholePart(word)
	var stack partStack
	for at := len(proc) - 1; at >= 0; at-- {
		set := stack.read(proc[at], word, whole)
		stack.push(set)
	}
	set := stack.pop()
	return set[whole]
}

// wholePart is the part that has all letters: no part of the word is above it.
func wholePart(word string) int {
	whole := 0
	for at := 0; at < len(word); at++ {
		whole = whole | letterBit(at)
	}
	return whole
}

// letterBit is the part that has one letter; a number that is none of a word's
// letters gives the empty part.
func letterBit(at int) int {
	if at < 0 || at >= maxWord {
		return 0
	}
	return 1 << at
}

// read takes what stands behind a sign off the stack and puts it together.
func (s *partStack) read(sign byte, word string, whole int) partSet {
	if isLetter(sign) {
		return taskParts(sign, word)
	}
	first := s.pop()
	if sign == repeated {
		return repeatedParts(first, whole)
	}
	second := s.pop()
	if sign == inRow {
		return rowParts(first, second, whole)
	}
	if sign == inChoice {
		return choiceParts(first, second, whole)
	}
	return sideParts(first, second, whole)
}

func taskParts(task byte, word string) partSet {
	var set partSet
	for at := 0; at < len(word); at++ {
		if word[at] == task {
			set[letterBit(at)] = true
		}
	}
	return set
}

// rowParts cuts each part ahead of the word's first letter, and behind each.
func rowParts(first partSet, second partSet, whole int) partSet {
	var set partSet
	for part := 0; part <= whole; part++ {
		for ahead := 0; ahead <= whole; ahead = ahead*2 + 1 {
			if first[part&ahead] && second[part&^ahead] {
				set[part] = true
			}
		}
	}
	return set
}

func choiceParts(first partSet, second partSet, whole int) partSet {
	var set partSet
	for part := 0; part <= whole; part++ {
		set[part] = first[part] || second[part]
	}
	return set
}

// sideParts shares out the letters of each part in all ways.
func sideParts(first partSet, second partSet, whole int) partSet {
	var set partSet
	for part := 0; part <= whole; part++ {
		for share := 0; share <= part; share++ {
			if first[part&share] && second[part&^share] {
				set[part] = true
			}
		}
	}
	return set
}

// repeatedParts cuts a word of the process off the front of each part. What is
// left is a lower number, so it is known by then, unless the word is empty; and
// an empty word in front changes nothing.
func repeatedParts(body partSet, whole int) partSet {
	var set partSet
	set[0] = true
	for part := 1; part <= whole; part++ {
		for ahead := 1; ahead <= whole; ahead = ahead*2 + 1 {
			if body[part&ahead] && set[part&^ahead] {
				set[part] = true
			}
		}
	}
	return set
}
