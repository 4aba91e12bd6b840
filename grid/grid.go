// Package grid is layer 1: maps; see shared/doc/01-grid.md.
package grid

import (
	"iter"
	"slices"
	"strings"
	"sync"

	"wagonway/api"
)

const (
	free  = '.'
	wall  = '#'
	marks = ".#^>v<"
)

// way is one of the four ways on: the mark of a cell that is left by it alone, the mark of a cell that may not be entered by it, and how many rows and columns it goes on.
type way struct {
	mark, against byte
	down, right   int
}

// The ways stand so that the cells on a cell's sides rise.
var ways = [4]way{
	{'^', 'v', -1, 0},
	{'<', '>', 0, -1},
	{'>', '<', 0, 1},
	{'v', '^', 1, 0},
}

// Map is cells.
type Map struct {
	rows, cols int
	marks      []byte // a cell's at its number

	once       sync.Once // guards what stands below
	next, back [][]int
	edges      int
}

// Parse is a text's map.
func Parse(s string) (m *Map, line, column int, e api.Errno) {
	m = &Map{}
	line, column = 1, 1
	for i := range len(s) {
		if !m.takes(s[i], line, column) {
			return nil, line, column, api.ErrMap
		}
		if s[i] == '\n' {
			m.rows, m.cols = line, column-1
			line, column = line+1, 1
			continue
		}
		m.marks = append(m.marks, s[i])
		column++
	}
	if line == 1 || column > 1 {
		return nil, line, column, api.ErrMap
	}
	if len(m.All()) == 0 {
		return nil, 0, 0, api.ErrMap
	}
	return m, 0, 0, api.OK
}

// takes says whether a byte may stand in a line and a column, behind the rows that the map has so far.
func (m *Map) takes(c byte, line, column int) bool {
	most := api.MaxSide
	if line > 1 {
		most = m.cols
	}
	switch {
	case line > api.MaxSide:
		return false
	case c != '\n':
		return strings.IndexByte(marks, c) >= 0 && column <= most
	case line == 1:
		return column > 1
	default:
		return column == m.cols+1
	}
}

// Text is a map's.
func (m *Map) Text() string {
	var b strings.Builder
	for row := range m.Rows() {
		b.Write(m.marks[row*m.cols : (row+1)*m.cols])
		b.WriteByte('\n')
	}
	return b.String()
}

// Rows is how many there are.
func (m *Map) Rows() int {
	if m == nil {
		return 0
	}
	return m.rows
}

// Cols is how many columns there are.
func (m *Map) Cols() int {
	if m == nil {
		return 0
	}
	return m.cols
}

// Cells is how many there are.
func (m *Map) Cells() int {
	if m == nil {
		return 0
	}
	return len(m.marks)
}

func (m *Map) has(cell int) bool { return cell >= 0 && cell < m.Cells() }

// Free says whether a cell is.
func (m *Map) Free(cell int) bool { return m.has(cell) && m.marks[cell] != wall }

// Kind is a cell's character.
func (m *Map) Kind(cell int) byte {
	if !m.has(cell) {
		return 0
	}
	return m.marks[cell]
}

// All are the free cells.
func (m *Map) All() []int {
	var all []int
	for cell := range m.Cells() {
		if m.Free(cell) {
			all = append(all, cell)
		}
	}
	return all
}

// Next are the cells to which edges go.
func (m *Map) Next(cell int) []int {
	if !m.has(cell) {
		return nil
	}
	m.once.Do(m.findEdges)
	return slices.Clone(m.next[cell])
}

// Back are those from which edges come.
func (m *Map) Back(cell int) []int {
	if !m.has(cell) {
		return nil
	}
	m.once.Do(m.findEdges)
	return slices.Clone(m.back[cell])
}

// Edge says whether one goes from a cell to another one.
func (m *Map) Edge(a, b int) bool {
	if !m.has(a) {
		return false
	}
	m.once.Do(m.findEdges)
	return slices.Contains(m.next[a], b)
}

// Edges is how many there are.
func (m *Map) Edges() int {
	if m == nil {
		return 0
	}
	m.once.Do(m.findEdges)
	return m.edges
}

// Far is how far two cells lie apart.
func (m *Map) Far(a, b int) int {
	if m.Cells() == 0 {
		return 0 // not -1: so all calls answer on a map that Parse did not make
	}
	if !m.has(a) || !m.has(b) {
		return -1
	}
	return apart(a/m.cols, b/m.cols) + apart(a%m.cols, b%m.cols)
}

func apart(x, y int) int { return max(x-y, y-x) }

// sides tells each cell beside one, rising, and the way that leads there.
func (m *Map) sides(cell int) iter.Seq2[int, way] {
	return func(yield func(int, way) bool) {
		for _, w := range ways {
			row, col := cell/m.cols+w.down, cell%m.cols+w.right
			inside := row >= 0 && row < m.rows && col >= 0 && col < m.cols
			if inside && !yield(row*m.cols+col, w) {
				return
			}
		}
	}
}

// leaves says whether a cell of this mark is left by the way.
func (w way) leaves(mark byte) bool { return mark == free || mark == w.mark }

// enters says whether a cell of this mark is entered by the way.
func (w way) enters(mark byte) bool { return mark != wall && mark != w.against }

// findEdges goes through the cells as they rise: so each list rises, too.
func (m *Map) findEdges() {
	m.next = make([][]int, len(m.marks))
	m.back = make([][]int, len(m.marks))
	for a, mark := range m.marks {
	sides:
		for b, w := range m.sides(a) {
			if !w.leaves(mark) || !w.enters(m.marks[b]) {
				continue sides
			}
			m.next[a] = append(m.next[a], b)
			m.back[b] = append(m.back[b], a)
			m.edges++
		}
	}
}
