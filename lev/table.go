package lev

import "slices"

// Of a and b the table has a row for each place of a, and for its end, and a column for each place of b, and for its end; there it tells how few edits make what b has from that place on of what a has from that place on. Neighbours are never more than 1 apart: what is kept of them is how much more one has than the other.

// tall is how many rows are gone through at once: each is a bit of a number.
const tall = 64

// column tells of each row of a part, of which the lowest one is the lowest bit, whether it has in a column the same as the row below has one column to the right; whether it has one more than the row below, or one less.
type column struct {
	same, more, less uint64
}

// climber goes through a part's rows, from b's end on, column by column.
type climber struct {
	column
	places [256]uint64
	top    int
}

// parts answers how many parts a text has.
func parts(a string) int {
	return (len(a) + tall - 1) / tall
}

// part answers a text's part.
func part(a string, p int) string {
	return a[p*tall : min((p+1)*tall, len(a))]
}

// start puts a climber at b's end, where all that is left of a goes.
func (c *climber) start(text string) {
	*c = climber{column: column{more: ^uint64(0)}, top: len(text) - 1}
	for i := range len(text) {
		c.places[text[i]] |= 1 << (c.top - i)
	}
}

// step goes on to the column of one of b's bytes. It is told how much more the row below all has there than one column to the right, and tells that of the first row.
func (c *climber) step(letter byte, below int8) int8 {
	var more, less uint64
	switch below {
	case 1:
		more = 1
	case -1:
		less = 1
	}
	same := c.places[letter] | less
	// The same are also all rows that had less; and each above one that is the same and had more, which the carry of a sum tells from row to row.
	same |= (same&c.more + c.more) ^ c.more | c.less
	right, left := c.less|^(same|c.more), same&c.more
	above := int8(right>>c.top&1) - int8(left>>c.top&1)
	// A row's neighbour below is told by the bit ahead of its own.
	right, left = right<<1|more, left<<1|less
	c.column = column{same: same, more: left | ^(same | right), less: same & right}
	return above
}

// climb makes the first row of a part of the row below it.
func climb(text, b string, row []int8) {
	var c climber
	c.start(text)
	for j := len(b) - 1; j >= 0; j-- {
		row[j] = c.step(b[j], row[j])
	}
}

// look fills the columns of a part by the row below it.
func look(text, b string, row []int8, columns []column) {
	var c climber
	c.start(text)
	for j := len(b) - 1; j >= 0; j-- {
		c.step(b[j], row[j])
		columns[j] = c.column
	}
}

// lastRow answers the row at a's end, where all that is left of b comes: how much more each place has than the next one.
func lastRow(b string) []int8 {
	return slices.Repeat([]int8{1}, len(b))
}

// rowsBelow answers the row below each part. (All rows of long texts would be too much to keep.)
func rowsBelow(a, b string) [][]int8 {
	rows := cut(parts(a), len(b))
	row := lastRow(b)
	for p := len(rows) - 1; p >= 0; p-- {
		copy(rows[p], row)
		climb(part(a, p), b, row)
	}
	return rows
}

// cut answers rows that lie one behind the other, none of which can grow into the next one.
func cut(n, wide int) [][]int8 {
	all := make([]int8, n*wide)
	rows := make([][]int8, n)
	for i := range rows {
		rows[i] = all[i*wide : (i+1)*wide : (i+1)*wide]
	}
	return rows
}
