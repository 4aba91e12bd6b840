package route_test

import (
	"math"
	"math/rand"
	"slices"
	"strings"
	"testing"

	"wagonway/api"
	"wagonway/grid"
	"wagonway/route"
)

const (
	marks = ".#^>v<"
	all   = math.MaxInt // a budget that is never too small
)

// ring is the map of the chapter's examples.
const ring = ".../.#./.../"

// parse reads a map as the chapter's examples write it: / for a byte 10.
func parse(t *testing.T, s string) *grid.Map {
	t.Helper()
	m, line, column, e := grid.Parse(strings.ReplaceAll(s, "/", "\n"))
	if e != api.OK {
		t.Fatalf("Parse(%q) = %d:%d %v", s, line, column, e)
	}
	return m
}

// drawnMap is a map out of draws: mostly free cells, with walls and one-way cells among them.
func drawnMap(t *testing.T, r *rand.Rand, rows, cols int) *grid.Map {
	t.Helper()
	for {
		var b strings.Builder
		for range rows {
			for range cols {
				b.WriteByte(marks[max(0, r.Intn(13)-7)])
			}
			b.WriteByte('/')
		}
		if strings.Trim(b.String(), "#/") != "" {
			return parse(t, b.String())
		}
	}
}

// drawnBans are at most so many cells, walls among them, some of them twice, and numbers that are no cells.
func drawnBans(r *rand.Rand, m *grid.Map, most int) []int {
	bans := make([]int, r.Intn(1+most))
	for i := range bans {
		bans[i] = r.Intn(m.Cells()+4) - 2
	}
	return bans
}

// task is a map, and what is banned on it.
type task struct {
	m    *grid.Map
	bans []int
}

// smallTasks are many, of which all routes can be gone through.
func smallTasks(t *testing.T, seed int64) []task {
	r := rand.New(rand.NewSource(seed))
	var tasks []task
	for _, s := range []string{"./", "../", ">./", "<./", "><./", ring, "..../.##./.>>./..../", ".../.../.../", "..>/#.v/", ".#./"} {
		m := parse(t, s)
		tasks = append(tasks, task{m, nil})
		for range 4 {
			tasks = append(tasks, task{m, drawnBans(r, m, m.Cells()/2)})
		}
	}
	for rows := 1; rows <= 4; rows++ {
		for cols := 1; cols <= 4; cols++ {
			for range 4 {
				m := drawnMap(t, r, rows, cols)
				tasks = append(tasks, task{m, drawnBans(r, m, m.Cells()/2)})
			}
		}
	}
	return tasks
}

// greatTasks are of maps up to the greatest.
func greatTasks(t *testing.T, seed int64) []task {
	r := rand.New(rand.NewSource(seed))
	var tasks []task
	for _, size := range [][2]int{{5, 9}, {9, 5}, {1, api.MaxSide}, {api.MaxSide, 1}, {12, 12}, {api.MaxSide, api.MaxSide}} {
		for range 6 {
			m := drawnMap(t, r, size[0], size[1])
			tasks = append(tasks, task{m, nil}, task{m, drawnBans(r, m, m.Cells()/8)})
		}
	}
	return tasks
}

// drawnEnds are some pairs of free cells.
func drawnEnds(r *rand.Rand, m *grid.Map, n int) [][2]int {
	free := m.All()
	ends := make([][2]int, n)
	for i := range ends {
		ends[i] = [2]int{free[r.Intn(len(free))], free[r.Intn(len(free))]}
	}
	return ends
}

func allEnds(m *grid.Map) [][2]int {
	var ends [][2]int
	for _, from := range m.All() {
		for _, to := range m.All() {
			ends = append(ends, [2]int{from, to})
		}
	}
	return ends
}

// isRoute says by the chapter's own words whether cells are one.
func isRoute(m *grid.Map, path, bans []int) bool {
	for i := 1; i < len(path); i++ {
		if !m.Edge(path[i-1], path[i]) || slices.Contains(bans, path[i]) {
			return false
		}
	}
	return len(path) > 0
}

// distances are those of all cells to the end, -1 for none: by the words, shorter ones first.
func distances(m *grid.Map, to int, bans []int) []int {
	dist := slices.Repeat([]int{-1}, m.Cells())
	dist[to] = 0
	for far, turned := 1, true; turned; far++ {
		turned = false
		for cell := range m.Cells() {
			if dist[cell] >= 0 {
				continue
			}
			for _, next := range m.Next(cell) {
				if dist[next] == far-1 && !slices.Contains(bans, next) {
					dist[cell], turned = far, true
				}
			}
		}
	}
	return dist
}

// looked is how many cells are looked at, by the words.
func looked(m *grid.Map, from, to int, bans []int) int {
	dist := distances(m, to, bans)
	n := 0
	for cell := range m.Cells() {
		banned := slices.Contains(bans, cell) && cell != from
		if cell == to && !banned || !banned && dist[cell] >= 0 && (dist[from] < 0 || dist[cell]+m.Far(from, cell) <= dist[from]) {
			n++
		}
	}
	return n
}

// routes are all of a length that meet no cell twice (the shortest ones never do), the first one first.
func routes(m *grid.Map, from, to int, bans []int, length int) [][]int {
	var found [][]int
	var walk func(path []int)
	walk = func(path []int) {
		at := path[len(path)-1]
		if len(path) == length+1 {
			if at == to {
				found = append(found, slices.Clone(path))
			}
			return
		}
		for next := range m.Cells() {
			if m.Edge(at, next) && !slices.Contains(bans, next) && !slices.Contains(path, next) && m.Far(next, to) <= length-len(path) {
				walk(append(path, next))
			}
		}
	}
	walk([]int{from})
	return found
}

// The chapter's examples.
func TestExamples(t *testing.T) {
	m := parse(t, ring)
	for _, x := range []struct{ banned, want []int }{
		{nil, []int{0, 1, 2, 5, 8}},
		{[]int{1}, []int{0, 3, 6, 7, 8}},
	} {
		if p, e := route.Find(m, 0, 8, x.banned, 99); e != api.OK || !slices.Equal(p, x.want) {
			t.Errorf("Find with %v banned = %v %v", x.banned, p, e)
		}
	}
	if p, e := route.Find(m, 0, 8, []int{1, 3}, 99); e != api.ErrNoPath || len(p) > 0 {
		t.Errorf("Find with 1 and 3 banned = %v %v", p, e)
	}
	if n, e := route.Dist(m, 0, 8, nil); n != 4 || e != api.OK {
		t.Errorf("Dist = %d %v", n, e)
	}
	if n, e := route.Looks(m, 0, 8, nil); n != 8 || e != api.OK {
		t.Errorf("Looks = %d %v", n, e)
	}
	if p, e := route.Find(m, 0, 8, nil, 7); e != api.ErrBudget || len(p) > 0 {
		t.Errorf("Find by 7 = %v %v", p, e)
	}
	if l := route.Around(m, 0, nil, 1); !slices.Equal(l, []int{0, 1, 3}) {
		t.Errorf("Around = %v", l)
	}
	if e := route.Check(m, []int{0, 1, 4}, nil); e != api.ErrArg {
		t.Errorf("Check = %v", e)
	}
}

// P4.1: Find against all routes that there are, of all ends.
func TestFindAgainstAllRoutes(t *testing.T) {
	for _, x := range smallTasks(t, 1) {
		for _, ends := range allEnds(x.m) {
			from, to := ends[0], ends[1]
			p, e := route.Find(x.m, from, to, x.bans, all)
			var want []int
			for length := 0; length < x.m.Cells() && want == nil; length++ {
				if list := routes(x.m, from, to, x.bans, length); len(list) > 0 {
					want = slices.MinFunc(list, slices.Compare)
				}
			}
			if !slices.Equal(p, want) || (e == api.OK) != (want != nil) || e != api.OK && e != api.ErrNoPath {
				t.Fatalf("%q, %v banned: Find(%d, %d) = %v %v, not %v", x.m.Text(), x.bans, from, to, p, e, want)
			}
		}
	}
}

// expectSearch holds Find, Dist and Looks against the words.
func expectSearch(t *testing.T, x task, from, to int) {
	t.Helper()
	dist := distances(x.m, to, x.bans)[from]
	wantErr := api.OK
	if dist < 0 {
		dist, wantErr = 0, api.ErrNoPath
	}
	if n, e := route.Dist(x.m, from, to, x.bans); n != dist || e != wantErr {
		t.Fatalf("%q, %v banned: Dist(%d, %d) = %d %v, not %d %v", x.m.Text(), x.bans, from, to, n, e, dist, wantErr)
	}
	want := looked(x.m, from, to, x.bans)
	if n, e := route.Looks(x.m, from, to, x.bans); n != want || e != api.OK {
		t.Fatalf("%q, %v banned: Looks(%d, %d) = %d %v, not %d", x.m.Text(), x.bans, from, to, n, e, want)
	}
	for _, budget := range []int{want, want + 1, all} {
		p, e := route.Find(x.m, from, to, x.bans, budget)
		if e != wantErr || e == api.OK && (len(p) != dist+1 || p[0] != from || p[dist] != to || !isRoute(x.m, p, x.bans)) {
			t.Fatalf("%q, %v banned: Find(%d, %d) by %d = %v %v", x.m.Text(), x.bans, from, to, budget, p, e)
		}
	}
	for _, budget := range []int{want - 1, want / 2, -1, math.MinInt} {
		if p, e := route.Find(x.m, from, to, x.bans, budget); budget < want && (e != api.ErrBudget || len(p) > 0) {
			t.Fatalf("%q, %v banned: Find(%d, %d) by %d = %v %v, %d are looked at", x.m.Text(), x.bans, from, to, budget, p, e, want)
		}
	}
}

// P4.1: Dist, Looks, and Find by every kind of budget, of all ends.
func TestSearchSmall(t *testing.T) {
	for _, x := range smallTasks(t, 2) {
		for _, ends := range allEnds(x.m) {
			expectSearch(t, x, ends[0], ends[1])
		}
	}
}

// P4.1: likewise on greater maps.
func TestSearchGreat(t *testing.T) {
	r := rand.New(rand.NewSource(3))
	for _, x := range greatTasks(t, 3) {
		for _, ends := range drawnEnds(r, x.m, 12) {
			expectSearch(t, x, ends[0], ends[1])
		}
	}
}

// Words: the first cell may be banned, the end too if it is the first one; else a banned end is not even looked at.
func TestBannedEnds(t *testing.T) {
	m := parse(t, ring)
	for _, x := range []struct {
		from, to int
		banned   []int
		want     []int
		looks    int
	}{
		{0, 8, []int{0}, []int{0, 1, 2, 5, 8}, 8},
		{0, 8, []int{0, 2}, []int{0, 3, 6, 7, 8}, 6},
		{0, 0, nil, []int{0}, 1},
		{0, 0, []int{0}, []int{0}, 1},
		{0, 0, []int{0, 1, 3}, []int{0}, 1},
		{0, 1, []int{0}, []int{0, 1}, 2},
		{0, 8, []int{8}, nil, 0},
		{0, 8, []int{0, 8}, nil, 0},
		{0, 8, []int{1, 3}, nil, 5},
		{0, 8, []int{0, 1, 3}, nil, 5},
		{0, 8, []int{5, 7}, nil, 1},
	} {
		p, e := route.Find(m, x.from, x.to, x.banned, x.looks)
		if !slices.Equal(p, x.want) || e != api.OK && e != api.ErrNoPath || (e == api.OK) != (x.want != nil) {
			t.Errorf("Find(%d, %d, %v) = %v %v", x.from, x.to, x.banned, p, e)
		}
		if n, e := route.Looks(m, x.from, x.to, x.banned); n != x.looks || e != api.OK {
			t.Errorf("Looks(%d, %d, %v) = %d %v, not %d", x.from, x.to, x.banned, n, e, x.looks)
		}
		if p, e := route.Find(m, x.from, x.to, x.banned, x.looks-1); len(p) > 0 || e != api.ErrBudget {
			t.Errorf("Find(%d, %d, %v) by %d = %v %v", x.from, x.to, x.banned, x.looks-1, p, e)
		}
	}
}

// Words: no shortest way looks where it would be longer by what is left at least.
func TestLooksAhead(t *testing.T) {
	m := parse(t, "......../......../......../")
	for _, x := range []struct{ from, to, looks int }{{8, 15, 8}, {0, 7, 8}, {15, 8, 8}, {0, 23, 24}, {9, 22, 12}, {12, 12, 1}} {
		if n, e := route.Looks(m, x.from, x.to, nil); n != x.looks || e != api.OK {
			t.Errorf("Looks(%d, %d) = %d %v, not %d", x.from, x.to, n, e, x.looks)
		}
	}
	if n, e := route.Looks(m, 8, 15, []int{12}); n != 24-1 || e != api.OK {
		t.Errorf("Looks around a banned cell = %d %v", n, e) // all may be on a way that is longer by 2
	}
}

// Words: one-way cells are left one way, and not entered just against it.
func TestOneWay(t *testing.T) {
	m := parse(t, ".>../.#.#/..<./")
	for _, x := range []struct {
		from, to int
		want     []int
	}{
		{0, 11, nil}, // 10 goes on to the left alone, and 11 is entered by it alone
		{11, 0, []int{11, 10, 9, 8, 4, 0}},
		{0, 9, []int{0, 4, 8, 9}},
		{1, 0, []int{1, 2, 6, 10, 9, 8, 4, 0}},
		{3, 2, []int{3, 2}},
		{2, 1, []int{2, 6, 10, 9, 8, 4, 0, 1}},
	} {
		p, e := route.Find(m, x.from, x.to, nil, all)
		if !slices.Equal(p, x.want) || (e == api.OK) != (len(x.want) > 0) {
			t.Errorf("Find(%d, %d) = %v %v, not %v", x.from, x.to, p, e, x.want)
		}
	}
}

// P4.1: the errors, that which is named first first; all else is zero beside them.
func TestErrors(t *testing.T) {
	m, unmade := parse(t, ring), &grid.Map{}
	for _, x := range []struct {
		m        *grid.Map
		from, to int
		budget   int
		want     api.Errno
	}{
		{nil, 0, 8, 99, api.ErrNil},
		{nil, -1, -1, -1, api.ErrNil},
		{unmade, 0, 0, 99, api.ErrArg},
		{m, -1, 8, 99, api.ErrArg},
		{m, 0, -1, 99, api.ErrArg},
		{m, 9, 8, 99, api.ErrArg},
		{m, 0, 9, 99, api.ErrArg},
		{m, 4, 8, 99, api.ErrArg},
		{m, 0, 4, 99, api.ErrArg},
		{m, 4, 4, 99, api.ErrArg},
		{m, 0, 4, -1, api.ErrArg},
		{m, math.MinInt, math.MaxInt, 0, api.ErrArg},
	} {
		if p, e := route.Find(x.m, x.from, x.to, nil, x.budget); e != x.want || len(p) > 0 {
			t.Errorf("Find(%d, %d) by %d = %v %v, not %v", x.from, x.to, x.budget, p, e, x.want)
		}
		if n, e := route.Dist(x.m, x.from, x.to, nil); e != x.want || n != 0 {
			t.Errorf("Dist(%d, %d) = %d %v, not %v", x.from, x.to, n, e, x.want)
		}
		if n, e := route.Looks(x.m, x.from, x.to, nil); e != x.want || n != 0 {
			t.Errorf("Looks(%d, %d) = %d %v, not %v", x.from, x.to, n, e, x.want)
		}
	}
	// Where there is no route: the budget is asked first.
	apart := parse(t, "..#../")
	if n, e := route.Looks(apart, 0, 4, nil); n != 2 || e != api.OK {
		t.Errorf("Looks of what is apart = %d %v", n, e)
	}
	if _, e := route.Find(apart, 0, 4, nil, 1); e != api.ErrBudget {
		t.Errorf("Find of what is apart, by 1 = %v", e)
	}
	if p, e := route.Find(apart, 0, 4, nil, 2); e != api.ErrNoPath || len(p) > 0 {
		t.Errorf("Find of what is apart, by 2 = %v %v", p, e)
	}
	if n, e := route.Dist(apart, 0, 4, nil); e != api.ErrNoPath || n != 0 {
		t.Errorf("Dist of what is apart = %d %v", n, e)
	}
}

// P4.1: banned numbers that are no cells make no difference.
func TestBannedNoCells(t *testing.T) {
	m := parse(t, ring)
	none := []int{-1, 9, -9, math.MinInt, math.MaxInt, 4, 4}
	if p, e := route.Find(m, 0, 8, append(none, 1), 8); e != api.OK || !slices.Equal(p, []int{0, 3, 6, 7, 8}) {
		t.Errorf("Find = %v %v", p, e)
	}
	if n, e := route.Looks(m, 0, 8, none); n != 8 || e != api.OK {
		t.Errorf("Looks = %d %v", n, e)
	}
	if n, e := route.Dist(m, 0, 8, none); n != 4 || e != api.OK {
		t.Errorf("Dist = %d %v", n, e)
	}
	if e := route.Check(m, []int{0, 1, 2}, none); e != api.OK {
		t.Errorf("Check = %v", e)
	}
	if l := route.Around(m, 0, none, 1); !slices.Equal(l, []int{0, 1, 3}) {
		t.Errorf("Around = %v", l)
	}
}

// P4.2: Check's edges.
func TestCheck(t *testing.T) {
	m := parse(t, ring)
	way := parse(t, ".>./")
	for _, x := range []struct {
		m            *grid.Map
		path, banned []int
		want         api.Errno
	}{
		{nil, []int{0}, nil, api.ErrNil},
		{nil, nil, nil, api.ErrNil},
		{&grid.Map{}, []int{0}, nil, api.ErrArg},
		{m, nil, nil, api.ErrArg},
		{m, []int{4}, nil, api.ErrArg},
		{m, []int{-1}, nil, api.ErrArg},
		{m, []int{9}, nil, api.ErrArg},
		{m, []int{4, 1, 0}, nil, api.ErrArg},
		{m, []int{0, 1, 9}, nil, api.ErrArg},
		{m, []int{0, 5, 4}, nil, api.ErrArg}, // ahead of ErrNoPath
		{m, []int{0}, nil, api.OK},
		{m, []int{0}, []int{0}, api.OK},
		{m, []int{0, 0}, nil, api.ErrNoPath},
		{m, []int{0, 1}, []int{0}, api.OK},
		{m, []int{0, 1}, []int{1}, api.ErrNoPath},
		{m, []int{0, 1, 2}, []int{1}, api.ErrNoPath},
		{m, []int{0, 1, 2}, []int{2}, api.ErrNoPath},
		{m, []int{0, 1, 0, 3}, nil, api.OK},          // a route need not be short
		{m, []int{0, 1, 0}, []int{0}, api.ErrNoPath}, // the last one is banned, and not the first one
		{m, []int{0, 2}, nil, api.ErrNoPath},         // no edge
		{m, []int{2, 3}, nil, api.ErrNoPath},         // of another row
		{m, []int{1, 4, 7}, nil, api.ErrNoPath},      // by way of a wall
		{m, []int{0, -1, 0}, nil, api.ErrNoPath},     // by way of no cell
		{m, []int{0, math.MaxInt, 0}, nil, api.ErrNoPath},
		{way, []int{0, 1, 2}, nil, api.OK},
		{way, []int{2, 1, 0}, nil, api.ErrNoPath},
		{way, []int{1, 0}, nil, api.ErrNoPath},
	} {
		if e := route.Check(x.m, x.path, x.banned); e != x.want {
			t.Errorf("Check(%v, %v) = %v, not %v", x.path, x.banned, e, x.want)
		}
	}
}

// P4.2: Check of every list of up to four numbers, cells or not, against the words.
func TestCheckAgainstWords(t *testing.T) {
	for _, x := range []task{
		{parse(t, "..>/#.v/"), nil}, {parse(t, "..>/#.v/"), []int{1}}, {parse(t, ".../.../"), []int{0, 4, 7, -1}}, {parse(t, "<^/#./"), []int{3}},
	} {
		var extend func(path []int)
		extend = func(path []int) {
			want := api.OK
			switch {
			case len(path) == 0 || !x.m.Free(path[0]) || !x.m.Free(path[len(path)-1]):
				want = api.ErrArg
			case !isRoute(x.m, path, x.bans):
				want = api.ErrNoPath
			}
			if e := route.Check(x.m, path, x.bans); e != want {
				t.Fatalf("%q, %v banned: Check(%v) = %v, not %v", x.m.Text(), x.bans, path, e, want)
			}
			for next := -1; next <= x.m.Cells() && len(path) < 4; next++ {
				extend(append(slices.Clone(path), next))
			}
		}
		extend(nil)
	}
}

// P4.2: Around against what Dist would tell, from every cell and number about them.
func TestAround(t *testing.T) {
	tasks := append(smallTasks(t, 4), greatTasks(t, 4)[:12]...)
	for _, x := range tasks {
		dist := map[int][]int{}
		for _, to := range x.m.All() {
			dist[to] = distances(x.m, to, x.bans)
		}
		for cell := -1; cell <= x.m.Cells(); cell++ {
			for _, far := range []int{math.MinInt, -1, 0, 1, 2, 3, 5, math.MaxInt} {
				var want []int
				for _, to := range x.m.All() {
					if x.m.Free(cell) && dist[to][cell] >= 0 && dist[to][cell] <= far && (to == cell || !slices.Contains(x.bans, to)) {
						want = append(want, to)
					}
				}
				if l := route.Around(x.m, cell, x.bans, far); !slices.Equal(l, want) {
					t.Fatalf("%q, %v banned: Around(%d, %d) = %v, not %v", x.m.Text(), x.bans, cell, far, l, want)
				}
			}
		}
	}
}

// P4.2: Around of none, of a map that nobody made, of walls, and of a cell that is banned itself.
func TestAroundEdges(t *testing.T) {
	m := parse(t, ring)
	for _, l := range [][]int{
		route.Around(nil, 0, nil, 1), route.Around(&grid.Map{}, 0, nil, 1), route.Around(m, 4, nil, 1), route.Around(m, 0, nil, -1), route.Around(m, 9, nil, 1), route.Around(m, math.MaxInt, nil, 1),
	} {
		if len(l) > 0 {
			t.Errorf("Around where there is nothing = %v", l)
		}
	}
	if l := route.Around(m, 0, []int{0, 3}, 2); !slices.Equal(l, []int{0, 1, 2}) {
		t.Errorf("Around a cell that is banned = %v", l)
	}
	if l := route.Around(m, 8, []int{7}, 0); !slices.Equal(l, []int{8}) {
		t.Errorf("Around by 0 = %v", l)
	}
}

// P4.3: what is handed in is not changed, and what is answered may be written to and added to.
func TestMemory(t *testing.T) {
	m := parse(t, ring)
	text := m.Text()
	banned := append(make([]int, 0, 9), 6, 1, -1, 6)
	path := append(make([]int, 0, 9), 0, 3, 6)
	ask := func() ([]int, []int) {
		p, e := route.Find(m, 0, 5, banned, all)
		if e != api.ErrNoPath {
			t.Fatalf("Find = %v %v", p, e)
		}
		if p, e = route.Find(m, 2, 7, banned, all); e != api.OK {
			t.Fatalf("Find = %v %v", p, e)
		}
		route.Dist(m, 2, 7, banned)
		route.Looks(m, 2, 7, banned)
		route.Check(m, path, banned)
		return p, route.Around(m, 8, banned, 2)
	}
	p, l := ask()
	wantPath, wantAround := []int{2, 5, 8, 7}, []int{2, 5, 7, 8}
	if !slices.Equal(p, wantPath) || !slices.Equal(l, wantAround) {
		t.Fatalf("answered: %v %v", p, l)
	}
	for _, list := range [][]int{p[:cap(p)], l[:cap(l)]} {
		for i := range list {
			list[i] = -77
		}
	}
	if p, l = ask(); !slices.Equal(p, wantPath) || !slices.Equal(l, wantAround) {
		t.Errorf("answered again: %v %v", p, l)
	}
	if !slices.Equal(banned, []int{6, 1, -1, 6}) || !slices.Equal(path, []int{0, 3, 6}) || m.Text() != text {
		t.Errorf("handed in: %v %v %q", banned, path, m.Text())
	}
	for _, list := range [][]int{banned[4:9], path[3:9]} {
		if slices.ContainsFunc(list, func(x int) bool { return x != 0 }) {
			t.Errorf("written behind what was handed in: %v", list)
		}
	}
	banned[1] = 0
	if !slices.Equal(p, wantPath) || !slices.Equal(l, wantAround) {
		t.Errorf("answers share memory with what was handed in: %v %v", p, l)
	}
}

// P4.4: a route behind any of its cells is the route from there; it is told just if there is one, and Check takes it; no more cells are looked at than are free.
func TestFollows(t *testing.T) {
	r := rand.New(rand.NewSource(5))
	for _, x := range append(smallTasks(t, 5), greatTasks(t, 5)...) {
		for _, ends := range drawnEnds(r, x.m, 10) {
			from, to := ends[0], ends[1]
			if n, _ := route.Looks(x.m, from, to, x.bans); n > len(x.m.All()) {
				t.Fatalf("%q: Looks(%d, %d) = %d", x.m.Text(), from, to, n)
			}
			p, e := route.Find(x.m, from, to, x.bans, len(x.m.All()))
			if e == api.ErrNoPath {
				if l := route.Around(x.m, from, x.bans, math.MaxInt); slices.Contains(l, to) {
					t.Fatalf("%q, %v banned: no Find(%d, %d), but Around has it", x.m.Text(), x.bans, from, to)
				}
				continue
			}
			if e != api.OK || route.Check(x.m, p, x.bans) != api.OK {
				t.Fatalf("%q, %v banned: Find(%d, %d) = %v %v", x.m.Text(), x.bans, from, to, p, e)
			}
			for i, cell := range p {
				if rest, e := route.Find(x.m, cell, to, x.bans, all); e != api.OK || !slices.Equal(rest, p[i:]) {
					t.Fatalf("%q, %v banned: %v, and from %d on %v %v", x.m.Text(), x.bans, p, cell, rest, e)
				}
			}
		}
	}
}

// P4.4: banned cells that no shortest route has make no difference to it.
func TestBansBeside(t *testing.T) {
	r := rand.New(rand.NewSource(6))
	for _, x := range smallTasks(t, 6) {
		for _, ends := range drawnEnds(r, x.m, 6) {
			from, to := ends[0], ends[1]
			p, e := route.Find(x.m, from, to, x.bans, all)
			if e != api.OK {
				continue
			}
			has := slices.Concat(routes(x.m, from, to, x.bans, len(p)-1)...)
			bans := slices.Clone(x.bans)
			for cell := range x.m.Cells() {
				if !slices.Contains(has, cell) {
					bans = append(bans, cell)
				}
			}
			if q, e := route.Find(x.m, from, to, bans, all); e != api.OK || !slices.Equal(q, p) {
				t.Fatalf("%q: %v with %v banned, but %v %v with %v", x.m.Text(), p, x.bans, q, e, bans)
			}
		}
	}
}

// winding is a map of the greatest size with one long corridor, row by row.
func winding() string {
	var b strings.Builder
	for row := range api.MaxSide {
		switch row % 4 {
		case 1:
			b.WriteString(strings.Repeat("#", api.MaxSide-1) + ".")
		case 3:
			b.WriteString("." + strings.Repeat("#", api.MaxSide-1))
		default:
			b.WriteString(strings.Repeat(".", api.MaxSide))
		}
		b.WriteByte('/')
	}
	return b.String()
}

// P4.4: the longest ways are found, too.
func TestWinding(t *testing.T) {
	m := parse(t, winding())
	free := m.All()
	from, to := 0, free[len(free)-1]
	for _, ends := range [][2]int{{from, to}, {to, from}} {
		p, e := route.Find(m, ends[0], ends[1], nil, len(free))
		if e != api.OK || route.Check(m, p, nil) != api.OK {
			t.Fatalf("Find = %v %v", p, e)
		}
		want := distances(m, ends[1], nil)[ends[0]]
		if n, e := route.Dist(m, ends[0], ends[1], nil); e != api.OK || n != want || len(p) != want+1 {
			t.Errorf("Dist = %d %v, not %d; Find tells %d cells", n, e, want, len(p))
		}
	}
}

// The same is answered always: whatever was asked before.
func TestSameAlways(t *testing.T) {
	m := parse(t, strings.Repeat("......../", 8))
	want, e := route.Find(m, 0, 63, nil, all)
	if e != api.OK || !slices.Equal(want, []int{0, 1, 2, 3, 4, 5, 6, 7, 15, 23, 31, 39, 47, 55, 63}) {
		t.Fatalf("Find = %v %v", want, e)
	}
	for i := range 50 {
		route.Find(m, i, 63-i, []int{i + 1}, i)
		if p, e := route.Find(m, 0, 63, nil, all); e != api.OK || !slices.Equal(p, want) {
			t.Fatalf("Find = %v %v", p, e)
		}
	}
}
