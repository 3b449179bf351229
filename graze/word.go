package graze

import "strings"

// word returns the state as the border between what is grazed and what is not, from the last row to the first one: u passes a
// row, and r a column.
func (p pasture) word() string {
	var word strings.Builder
	passed := 0
	for row := p.rows - 1; row >= 0; row-- {
		word.WriteString(strings.Repeat("r", p.grazed[row]-passed))
		word.WriteByte('u')
		passed = p.grazed[row]
	}
	word.WriteString(strings.Repeat("r", p.columns-passed))
	return word.String()
}

// pastureOfWord returns the pasture that has the word; it is false if there is none.
func pastureOfWord(rows, columns int, word string) (pasture, bool) {
	if len(word) != rows+columns || strings.Count(word, "u") != rows || strings.Count(word, "r") != columns {
		return pasture{}, false
	}
	p := pasture{rows: rows, columns: columns}
	row, passed := rows-1, 0
	for _, letter := range []byte(word) {
		if letter == 'r' {
			passed++
			continue
		}
		p.grazed[row] = passed
		row--
	}
	return p, true
}
