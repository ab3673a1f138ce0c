package cdcl

// marks is marks of numbers, that can all be taken away at once.
type marks struct {
	// stamps is by numbers the round in which it was marked.
	stamps []int
	round  int
}

// newMarks is none of the numbers up to top.
func newMarks(top int) marks {
	return marks{stamps: make([]int, top+1), round: 1}
}

// clear takes all marks away.
func (m *marks) clear() {
	m.round++
}

// add marks a number; false, if it was marked.
func (m *marks) add(n int) bool {
	if m.has(n) {
		return false
	}
	m.stamps[n] = m.round
	return true
}

// remove takes the mark of a number away.
func (m *marks) remove(n int) {
	m.stamps[n] = 0
}

// has tells whether a number is marked.
func (m *marks) has(n int) bool {
	return m.stamps[n] == m.round
}
