package staking

import "strconv"

const (
	numberBase = 10
	numberEnd  = ' ' // stands behind each number, the last one too
)

// writer gathers numbers as text.
type writer struct {
	text []byte
}

func (w *writer) add(n int) {
	digits := strconv.Itoa(n)
	w.text = append(w.text, digits...)
	w.text = append(w.text, numberEnd)
}

// reader takes numbers from such a text, one behind the other. Once a number was not as it was asked for it stays bad, so that this need be asked at the end alone.
type reader struct {
	text string
	at   int
	bad  bool
}

// next is the next number, or 0 if it is not one of 0 to most. Needless zeros pass here, because Import holds the whole text to what Export writes.
func (r *reader) next(most int) int {
	n := 0
	first := r.at
	// What is above most is not read on, so that no row of digits can run over.
	for r.atDigit() && n <= most {
		n = n*numberBase + int(r.text[r.at]-'0')
		r.at++
	}
	digits := r.at - first
	ended := r.passEnd()
	if digits < 1 || n > most || !ended {
		r.bad = true
	}
	if r.bad {
		return 0
	}
	return n
}

// nextList is a list that stands behind its length.
func (r *reader) nextList(longest int, most int) []int {
	var list []int
	count := r.next(longest)
	for i := 0; i < count; i++ {
		n := r.next(most)
		list = append(list, n)
	}
	return list
}

func (r *reader) atDigit() bool {
	return r.at < len(r.text) && r.text[r.at] >= '0' && r.text[r.at] <= '9'
}

func (r *reader) passEnd() bool {
	if r.at >= len(r.text) || r.text[r.at] != numberEnd {
		return false
	}
	r.at++
	return true
}
