package window_test

import (
	"math"
	"math/rand"
	"slices"
	"testing"

	"wagonway/api"
	"wagonway/window"
)

// These are limits as the chapter writes them out.
const (
	ahead    = 64
	greatest = 1<<32 - 1
)

// What Meet says, as the chapter writes it out.
const (
	none  = 0
	isNew = 1
	again = 2
	far   = 3
)

// model is the chapter's window: all numbers up to from, and those that were met behind it.
type model struct {
	from uint64
	met  map[uint64]bool
}

func modelUpTo(from uint32) *model { return &model{uint64(from), map[uint64]bool{}} }

func (m *model) has(n uint64) bool { return n > 0 && (n <= m.from || m.met[n]) }

func (m *model) last() uint64 {
	last := m.from
	for m.has(last + 1) {
		last++
	}
	return last
}

func (m *model) meet(n uint64) int {
	switch {
	case n == 0:
		return none
	case m.has(n):
		return again
	case n > m.last()+ahead:
		return far
	}
	m.met[n] = true
	return isNew
}

func (m *model) next() (uint32, bool) {
	if m.last() == greatest {
		return 0, false
	}
	return uint32(m.last() + 1), true
}

// parts are the early numbers and the missing ones.
func (m *model) parts() (early, missing []uint32) {
	top := uint64(0)
	for n := range m.met {
		top = max(top, n)
	}
	for n := m.last() + 1; n <= top; n++ {
		if m.has(n) {
			early = append(early, uint32(n))
		} else {
			missing = append(missing, uint32(n))
		}
	}
	return early, missing
}

// compare holds all that a window tells against the model.
func compare(t *testing.T, w *window.Window, m *model) {
	t.Helper()
	if l := w.Last(); uint64(l) != m.last() {
		t.Fatalf("Last = %d, not %d", l, m.last())
	}
	n, is := w.Next()
	if wantN, want := m.next(); n != wantN || is != want {
		t.Fatalf("Next = %d %v, not %d %v", n, is, wantN, want)
	}
	early, missing := m.parts()
	if l := w.Early(); !slices.Equal(l, early) {
		t.Fatalf("Early = %v, not %v", l, early)
	}
	if l := w.Missing(); !slices.Equal(l, missing) {
		t.Fatalf("Missing = %v, not %v", l, missing)
	}
	for d := range uint64(2*ahead + 3) {
		if n := m.last() + d; n >= ahead && n-ahead <= greatest && w.Has(uint32(n-ahead)) != m.has(n-ahead) {
			t.Fatalf("Has(%d) = %v behind %d", n-ahead, !m.has(n-ahead), m.last())
		}
	}
	for _, n := range []uint32{0, 1, 2, 1 << 31, greatest - 1, greatest} {
		if w.Has(n) != m.has(uint64(n)) {
			t.Fatalf("Has(%d) = %v behind %d", n, w.Has(n), m.last())
		}
	}
}

// meetAll meets numbers one by one, and holds the window against the model behind each.
func meetAll(t *testing.T, from uint32, numbers []uint32) *window.Window {
	t.Helper()
	w, m := window.UpTo(from), modelUpTo(from)
	compare(t, w, m)
	for _, n := range numbers {
		want := m.meet(uint64(n))
		if says := w.Meet(n); says != want {
			t.Fatalf("Meet(%d) = %d, not %d, of %v", n, says, want, numbers)
		}
		compare(t, w, m)
	}
	return w
}

// The chapter's examples.
func TestExamples(t *testing.T) {
	var w window.Window
	if a, b := w.Meet(2), w.Meet(4); a != 1 || b != 1 || w.Last() != 0 {
		t.Error(a, b, w.Last())
	}
	if e, m := w.Early(), w.Missing(); !slices.Equal(e, []uint32{2, 4}) || !slices.Equal(m, []uint32{1, 3}) {
		t.Error(e, m)
	}
	if says, last := w.Meet(1), w.Last(); says != 1 || last != 2 {
		t.Error(says, last)
	}
	if a, b, c := w.Meet(2), w.Meet(67), w.Meet(66); a != 2 || b != 3 || c != 1 {
		t.Error(a, b, c)
	}
	if n, is := w.Next(); n != 3 || !is {
		t.Error(n, is)
	}
}

// The constants that the answers are told by are the chapter's.
func TestConstants(t *testing.T) {
	if api.MetNone != none || api.MetNew != isNew || api.MetAgain != again || api.MetFar != far || api.Ahead != ahead {
		t.Error("constants of api are others")
	}
}

// P10.1: 0 is no number, whatever was met, and stays unmet.
func TestMeetNone(t *testing.T) {
	for _, last := range []uint32{0, 1, 5, ahead, greatest - 1, greatest} {
		w := window.UpTo(last)
		if says := w.Meet(0); says != none || w.Has(0) || w.Last() != last || len(w.Early()) != 0 {
			t.Error(last, says, w.Has(0), w.Last(), w.Early())
		}
	}
}

// P10.1: what was met is met again, be it in order or early; that comes ahead of whether it is far.
func TestMeetAgain(t *testing.T) {
	w := window.UpTo(5)
	w.Meet(7)
	w.Meet(5 + ahead)
	for _, n := range []uint32{1, 4, 5, 7, 5 + ahead} {
		for range 2 {
			if says := w.Meet(n); says != again || !w.Has(n) {
				t.Error(n, says, w.Has(n))
			}
		}
	}
	if l := w.Early(); w.Last() != 5 || !slices.Equal(l, []uint32{7, 5 + ahead}) {
		t.Error(w.Last(), l)
	}
}

// P10.1: what is above the last in order and Ahead is far, and is not met; what is just Ahead above is new.
func TestMeetFar(t *testing.T) {
	for _, last := range []uint32{0, 1, 63, 64, 65, 1000, 1 << 31, greatest - ahead - 2, greatest - ahead - 1} {
		w := window.UpTo(last)
		for _, n := range []uint32{last + ahead + 1, uint32(min(uint64(last)+2*ahead+1, greatest)), greatest} {
			if says := w.Meet(n); says != far || w.Has(n) || len(w.Early()) != 0 || len(w.Missing()) != 0 || w.Last() != last {
				t.Error(last, n, says, w.Has(n), w.Early(), w.Missing(), w.Last())
			}
		}
		if says := w.Meet(last + ahead); says != isNew || !w.Has(last+ahead) || w.Last() != last {
			t.Error(last, says, w.Has(last+ahead), w.Last())
		}
	}
}

// P10.1: far is by the last in order, not by what was met early.
func TestFarByLast(t *testing.T) {
	meetAll(t, 0, []uint32{64, 65, 66, 128, 1, 65, 66, 2, 66, 67, 130})
}

// P10.1 and P10.2: a window whose gaps close moves on over all that was early, up to all of it.
func TestOn(t *testing.T) {
	for _, from := range []uint32{0, 1, 100, 1<<31 - 32, greatest - ahead - 1, greatest - ahead} {
		var down []uint32
		for n := range uint32(ahead) {
			down = append(down, from+ahead-n)
		}
		w := meetAll(t, from, down)
		if w.Last() != from+ahead || len(w.Early()) != 0 || len(w.Missing()) != 0 {
			t.Error(from, w.Last(), w.Early(), w.Missing())
		}
	}
}

// P10.1 and P10.2: near the greatest number nothing is too great, and behind it there is none.
func TestGreatest(t *testing.T) {
	w := meetAll(t, greatest-3, []uint32{greatest, 0, 1, 2, 62, greatest - 1, greatest, greatest - 2, greatest, 0, 1})
	if n, is := w.Next(); n != 0 || is || w.Last() != greatest {
		t.Error(n, is, w.Last())
	}
	w = window.UpTo(greatest - 1)
	if n, is := w.Next(); n != greatest || !is {
		t.Error(n, is)
	}
	for from := uint32(greatest); from > greatest-ahead-3; from-- {
		meetAll(t, from, []uint32{greatest, from + 1, 0, 1, from + 3, greatest - 1, from + 2, greatest - ahead, from, greatest})
	}
}

// P10.2: Early and Missing are rising, over all that the window looks ahead, and Missing ends below the greatest one met.
func TestParts(t *testing.T) {
	for _, x := range []struct{ numbers, early, missing []uint32 }{
		{nil, nil, nil},
		{[]uint32{1, 2, 3}, nil, nil},
		{[]uint32{2}, []uint32{2}, []uint32{1}},
		{[]uint32{6, 3, 5}, []uint32{3, 5, 6}, []uint32{1, 2, 4}},
		{[]uint32{1, 5, 4, 3}, []uint32{3, 4, 5}, []uint32{2}},
		{[]uint32{8, 1, 4, 2}, []uint32{4, 8}, []uint32{3, 5, 6, 7}},
	} {
		w := meetAll(t, 0, x.numbers)
		if e, m := w.Early(), w.Missing(); !slices.Equal(e, x.early) || !slices.Equal(m, x.missing) {
			t.Error(x, e, m)
		}
	}
	w := meetAll(t, 9, []uint32{9 + ahead})
	if m := w.Missing(); len(m) != ahead-1 || m[0] != 10 || m[ahead-2] != 8+ahead {
		t.Error(m)
	}
	var even []uint32
	for n := range uint32(ahead / 2) {
		even = append(even, 2*n+2)
	}
	w = meetAll(t, 0, even)
	if e, m := w.Early(), w.Missing(); !slices.Equal(e, even) || len(m) != ahead/2 || m[0] != 1 || m[ahead/2-1] != ahead-1 {
		t.Error(e, m)
	}
}

// P10.2: what only asks turns nothing.
func TestAsking(t *testing.T) {
	w := meetAll(t, 3, []uint32{5, 9})
	before := *w
	w.Has(7)
	w.Last()
	w.Next()
	w.Early()
	w.Missing()
	w.Meet(0)
	w.Meet(5)
	w.Meet(3 + ahead + 1)
	if *w != before {
		t.Error(before, *w)
	}
}

// P10.3: what is answered is new memory each time, and a change of it does not reach the window.
func TestNewMemory(t *testing.T) {
	w := meetAll(t, 0, []uint32{2, 4, 7})
	for _, ask := range []func() []uint32{w.Early, w.Missing} {
		first := ask()
		want := slices.Clone(first)
		for i := range first {
			first[i] = 99
		}
		_ = append(first[:0], 98)
		if l := ask(); !slices.Equal(l, want) || w.Has(99) || !w.Has(2) || w.Has(3) {
			t.Error(l, want)
		}
	}
	l := w.Early()
	w.Meet(1)
	w.Meet(3)
	if !slices.Equal(l, []uint32{2, 4, 7}) {
		t.Error("an answer changed with the window:", l)
	}
}

// P10.4: each number is new once at most, and the last in order never falls; whatever comes.
func TestNewOnce(t *testing.T) {
	r := rand.New(rand.NewSource(10))
	for range 40 {
		from := []uint32{0, 0, 50, 1 << 31, greatest - 300, greatest - 70}[r.Intn(6)]
		w, m := window.UpTo(from), modelUpTo(from)
		news := map[uint32]int{}
		for range 400 {
			n := w.Last() + uint32(r.Intn(ahead+8)) - 4
			switch r.Intn(20) {
			case 0:
				n = r.Uint32()
			case 1:
				n = []uint32{0, 1, greatest, greatest - 1}[r.Intn(4)]
			}
			last, says := w.Last(), w.Meet(n)
			if want := m.meet(uint64(n)); says != want {
				t.Fatalf("Meet(%d) = %d, not %d, behind %d", n, says, want, last)
			}
			if says == isNew {
				news[n]++
			}
			if news[n] > 1 || w.Last() < last {
				t.Fatalf("%d was new %d times; the last in order went from %d to %d", n, news[n], last, w.Last())
			}
		}
		compare(t, w, m)
	}
}

// P10.4: in whatever order numbers come that are all within the window, the window is the same behind them.
func TestAnyOrder(t *testing.T) {
	r := rand.New(rand.NewSource(11))
	for range 200 {
		from := []uint32{0, 7, 1<<31 - 20, greatest - ahead}[r.Intn(4)]
		var numbers []uint32
		for n := range uint32(ahead) {
			if r.Intn(4) > 0 {
				numbers = append(numbers, from+1+n)
			}
		}
		first := window.UpTo(from)
		for _, n := range numbers {
			first.Meet(n)
		}
		for range 5 {
			r.Shuffle(len(numbers), func(i, j int) { numbers[i], numbers[j] = numbers[j], numbers[i] })
			w := window.UpTo(from)
			for _, n := range numbers {
				if says := w.Meet(n); says != isNew {
					t.Fatal(from, n, says)
				}
			}
			if *w != *first || w.Last() != first.Last() || !slices.Equal(w.Early(), first.Early()) || !slices.Equal(w.Missing(), first.Missing()) {
				t.Fatal(from, numbers, *w, *first)
			}
		}
	}
}

// P10.4: a long run in order, each number a few places off its own, is met whole.
func TestLongRun(t *testing.T) {
	r := rand.New(rand.NewSource(12))
	var w window.Window
	const many = 20000
	numbers := make([]uint32, many)
	for i := range numbers {
		numbers[i] = uint32(i + 1)
	}
	for i := 0; i+32 <= many; i += 32 {
		r.Shuffle(32, func(a, b int) { numbers[i+a], numbers[i+b] = numbers[i+b], numbers[i+a] })
	}
	for _, n := range numbers {
		if says := w.Meet(n); says != isNew {
			t.Fatal(n, says)
		}
	}
	if w.Last() != many || len(w.Early()) != 0 {
		t.Error(w.Last(), w.Early())
	}
}

// A Window that nobody made has met none.
func TestZero(t *testing.T) {
	compare(t, &window.Window{}, modelUpTo(0))
	var w window.Window
	if n, is := w.Next(); n != 1 || !is || w.Last() != 0 || w.Has(1) || w.Meet(1) != isNew {
		t.Error(n, is, w.Last())
	}
}

// Calls on none answer 0, false, nothing.
func TestNone(t *testing.T) {
	var w *window.Window
	for _, n := range []uint32{0, 1, 64, 65, math.MaxUint32} {
		if says := w.Meet(n); says != none || w.Has(n) {
			t.Error(n, says, w.Has(n))
		}
	}
	if n, is := w.Next(); n != 0 || is || w.Last() != 0 || len(w.Early()) != 0 || len(w.Missing()) != 0 {
		t.Error(n, is, w.Last(), w.Early(), w.Missing())
	}
}

// A window is a value: one that is copied goes its own way.
func TestCopied(t *testing.T) {
	w := meetAll(t, 0, []uint32{2, 4})
	other := *w
	other.Meet(1)
	other.Meet(6)
	if w.Last() != 0 || w.Has(1) || w.Has(6) || other.Last() != 2 || !slices.Equal(other.Early(), []uint32{4, 6}) {
		t.Error(*w, other)
	}
}
