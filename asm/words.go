package asm

// mostWords is how many words the longest line has.
const mostWords = 8

// words answers the words of a line; false, if there are more than a line has, or if more than one blank stands between two.
func words(line string) ([]string, bool) {
	var list []string
	from := -1 // where the word begins that is being read
	gap := 0   // blanks behind the last word
	for at, r := range line {
		switch {
		case r == blank && from >= 0:
			list = append(list, line[from:at])
			from, gap = -1, 1
		case r == blank:
			gap++
		case from < 0:
			if len(list) == mostWords || len(list) > 0 && gap > 1 {
				return nil, false
			}
			from = at
		}
	}
	if from >= 0 {
		list = append(list, line[from:])
	}
	return list, true
}

// digits answers the number that a word is, from 0 to most; false, if it is none, or has a 0 ahead.
func digits(word string, most uint64) (uint64, bool) {
	n := uint64(0)
	for at, r := range word {
		if r < '0' || r > '9' || at > 0 && n == 0 {
			return 0, false
		}
		digit := uint64(r - '0')
		if n > (most-digit)/10 {
			return 0, false
		}
		n = n*10 + digit
	}
	return n, word != ""
}

// signed answers the number of this many bits whose size a word is, below 0 or not; false, if there is none, or if it is -0.
func signed(below bool, word string, bits int) (int, bool) {
	most := uint64(1)<<(bits-1) - 1
	if below {
		most++
	}
	n, ok := digits(word, most)
	switch {
	case !ok || below && n == 0:
		return 0, false
	case below:
		return -int(n), true
	}
	return int(n), true
}
