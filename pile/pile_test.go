package pile_test

import (
	"cmp"
	"math"
	"math/rand"
	"slices"
	"testing"

	"wagonway/pile"
)

// inOrder are the items by Cost, then Tie, then ID.
func inOrder(items []pile.Item) []pile.Item {
	sorted := slices.Clone(items)
	slices.SortFunc(sorted, func(a, b pile.Item) int {
		return cmp.Or(cmp.Compare(a.Cost, b.Cost), cmp.Compare(a.Tie, b.Tie), cmp.Compare(a.ID, b.ID))
	})
	return sorted
}

func piled(items ...pile.Item) *pile.Pile {
	p := &pile.Pile{}
	for _, x := range items {
		p.Push(x)
	}
	return p
}

// drawn are items of which many have something in common, and some all.
func drawn(r *rand.Rand, n int) []pile.Item {
	items := make([]pile.Item, n)
	for i := range items {
		items[i] = drawnItem(r)
	}
	return items
}

func drawnItem(r *rand.Rand) pile.Item {
	return pile.Item{Cost: r.Intn(5) - 2, Tie: r.Intn(5) - 2, ID: r.Intn(5) - 2}
}

// extremes are items of the least and greatest numbers, whose differences are none.
func extremes() []pile.Item {
	numbers := []int{math.MaxInt, 0, math.MinInt, -1, 1}
	var items []pile.Item
	for _, cost := range numbers {
		for _, tie := range numbers {
			for _, id := range numbers {
				items = append(items, pile.Item{Cost: cost, Tie: tie, ID: id})
			}
		}
	}
	return items
}

func popped(p *pile.Pile) []pile.Item {
	var items []pile.Item
	for {
		x, there := p.Pop()
		if !there {
			return items
		}
		items = append(items, x)
	}
}

// expect holds all that may be asked of a pile against the items that it is to have.
func expect(t *testing.T, p *pile.Pile, items []pile.Item) {
	t.Helper()
	if n := p.Len(); n != len(items) {
		t.Fatalf("Len = %d, not %d", n, len(items))
	}
	want := inOrder(items)
	if all := p.All(); !slices.Equal(all, want) {
		t.Fatalf("All = %v, not %v", all, want)
	}
	top, there := p.Top()
	if there != (len(want) > 0) || there && top != want[0] || !there && top != (pile.Item{}) {
		t.Fatalf("Top = %v %v, of %v", top, there, want)
	}
	if n := p.Len(); n != len(items) {
		t.Fatalf("Len = %d behind All and Top, not %d", n, len(items))
	}
}

// The chapter's examples.
func TestExamples(t *testing.T) {
	p := piled(pile.Item{5, 0, 1}, pile.Item{3, 9, 2}, pile.Item{3, 1, 3}, pile.Item{3, 1, 3})
	if x, there := p.Top(); x != (pile.Item{3, 1, 3}) || !there {
		t.Errorf("Top = %v %v", x, there)
	}
	if l := p.Least(3); !slices.Equal(l, []pile.Item{{3, 1, 3}, {3, 1, 3}, {3, 9, 2}}) {
		t.Errorf("Least(3) = %v", l)
	}
	if n := p.Len(); n != 1 {
		t.Errorf("Len = %d", n)
	}
	if x, there := p.Pop(); x != (pile.Item{5, 0, 1}) || !there {
		t.Errorf("Pop = %v %v", x, there)
	}
	if x, there := p.Pop(); x != (pile.Item{}) || there {
		t.Errorf("Pop of no items = %v %v", x, there)
	}
}

// Words: by Cost, then Tie, then ID; whatever the numbers, and whichever was pushed first.
func TestAhead(t *testing.T) {
	for _, l := range [][2]pile.Item{
		{{1, 9, 9}, {2, 0, 0}},
		{{1, 1, 9}, {1, 2, 0}},
		{{1, 1, 1}, {1, 1, 2}},
		{{-1, 0, 0}, {0, -1, -1}},
		{{0, -1, 0}, {0, 0, -1}},
		{{0, 0, -1}, {0, 0, 0}},
		{{math.MinInt, 0, 0}, {math.MaxInt, 0, 0}},
		{{0, math.MinInt, 0}, {0, math.MaxInt, 0}},
		{{0, 0, math.MinInt}, {0, 0, math.MaxInt}},
		{{math.MinInt, 0, 0}, {1, 0, 0}},
		{{-2, 0, 0}, {math.MaxInt, 0, 0}},
	} {
		for _, p := range []*pile.Pile{piled(l[0], l[1]), piled(l[1], l[0])} {
			expect(t, p, l[:])
			if items := popped(p); !slices.Equal(items, l[:]) {
				t.Errorf("popped: %v, not %v", items, l)
			}
		}
	}
}

// P3.1: pushes, pops and the least ones, one behind the other, in any order, against a list that is kept in order.
func TestAgainstList(t *testing.T) {
	r := rand.New(rand.NewSource(4))
	for round := range 200 {
		p, kept := &pile.Pile{}, []pile.Item(nil)
		for range 60 {
			switch draw := r.Intn(10); {
			case draw < 5+round%3:
				x := drawnItem(r)
				p.Push(x)
				kept = inOrder(append(kept, x))
			case draw < 9:
				x, there := p.Pop()
				if there != (len(kept) > 0) || there && x != kept[0] || !there && x != (pile.Item{}) {
					t.Fatalf("Pop = %v %v, of %v", x, there, kept)
				}
				kept = kept[min(1, len(kept)):]
			default:
				n := r.Intn(12) - 3
				first := min(max(n, 0), len(kept))
				if l := p.Least(n); !slices.Equal(l, kept[:first]) {
					t.Fatalf("Least(%d) = %v, of %v", n, l, kept)
				}
				kept = kept[first:]
			}
			expect(t, p, kept)
		}
	}
}

// P3.1: Least takes out as many as were asked for, all if there are fewer, and none below 1.
func TestLeast(t *testing.T) {
	items := []pile.Item{{4, 0, 0}, {1, 0, 0}, {3, 0, 0}, {1, 0, 0}, {2, 0, 0}}
	want := inOrder(items)
	for _, x := range []struct{ n, taken int }{
		{math.MinInt, 0}, {-1, 0}, {0, 0}, {1, 1}, {2, 2}, {4, 4}, {5, 5}, {6, 5}, {math.MaxInt, 5},
	} {
		p := piled(items...)
		if l := p.Least(x.n); !slices.Equal(l, want[:x.taken]) {
			t.Errorf("Least(%d) = %v", x.n, l)
		}
		expect(t, p, want[x.taken:])
		if l := p.Least(math.MaxInt); !slices.Equal(l, want[x.taken:]) {
			t.Errorf("Least of what is left = %v", l)
		}
		expect(t, p, nil)
	}
}

// P3.1: Top and All leave all where they are, however often they are asked.
func TestTopAllStay(t *testing.T) {
	items := drawn(rand.New(rand.NewSource(5)), 40)
	p := piled(items...)
	for range 3 {
		expect(t, p, items)
	}
	if l := popped(p); !slices.Equal(l, inOrder(items)) {
		t.Errorf("popped: %v", l)
	}
}

// P3.2: what is answered may be written to, and added to; nothing turns by it.
func TestNewMemory(t *testing.T) {
	items := drawn(rand.New(rand.NewSource(6)), 21)
	want := inOrder(items)
	p := piled(items...)
	spoil := func(l []pile.Item) {
		l = l[:cap(l)]
		for i := range l {
			l[i] = pile.Item{Cost: -77}
		}
	}
	spoil(p.All())
	expect(t, p, items)
	all := p.All()
	least := p.Least(5)
	spoil(least)
	expect(t, p, want[5:])
	if !slices.Equal(all, want) {
		t.Errorf("an earlier All = %v", all)
	}
	least, again := p.Least(5), p.Least(5)
	spoil(again)
	if !slices.Equal(least, want[5:10]) {
		t.Errorf("an earlier Least = %v", least)
	}
	p.Push(want[0])
	if !slices.Equal(least, want[5:10]) || !slices.Equal(all, want) {
		t.Errorf("behind a Push: %v %v", least, all)
	}
	expect(t, p, append(slices.Clone(want[15:]), want[0]))
}

// P3.3: in whatever order items were pushed, they are popped in their order: all orders of a few, with some of them the same.
func TestEveryOrder(t *testing.T) {
	items := []pile.Item{{1, 1, 1}, {1, 1, 1}, {0, 2, 2}, {1, 0, 5}, {1, 1, 0}, {2, 0, 0}, {2, 0, 0}}
	want := inOrder(items)
	var orders func(done, left []pile.Item)
	orders = func(done, left []pile.Item) {
		if len(left) == 0 {
			if l := popped(piled(done...)); !slices.Equal(l, want) {
				t.Fatalf("%v is popped as %v", done, l)
			}
		}
		for i := range left {
			orders(append(slices.Clone(done), left[i]), slices.Delete(slices.Clone(left), i, i+1))
		}
	}
	orders(nil, items)
}

// P3.3: likewise of more items, as often as each was pushed.
func TestPopsInOrder(t *testing.T) {
	r := rand.New(rand.NewSource(7))
	for _, items := range [][]pile.Item{
		extremes(), drawn(r, 1), drawn(r, 2), drawn(r, 3), drawn(r, 500), slices.Repeat([]pile.Item{{3, 2, 1}}, 33),
	} {
		want := inOrder(items)
		for range 5 {
			r.Shuffle(len(items), func(i, j int) { items[i], items[j] = items[j], items[i] })
			if l := popped(piled(items...)); !slices.Equal(l, want) {
				t.Fatalf("%d items: popped %v", len(items), l)
			}
		}
	}
}

// P3.3: a pop, and a push of what it told, leaves no trace.
func TestNoTrace(t *testing.T) {
	r := rand.New(rand.NewSource(8))
	for n := 1; n <= 40; n++ {
		items := drawn(r, n)
		p := piled(items...)
		for range 2 * n {
			x, there := p.Pop()
			if !there {
				t.Fatalf("%d items: no Pop", n)
			}
			p.Push(x)
			expect(t, p, items)
		}
		if l := popped(p); !slices.Equal(l, inOrder(items)) {
			t.Fatalf("%d items: popped %v", n, l)
		}
	}
}

// P3.3: a great pile, rising, falling and mixed.
func TestGreat(t *testing.T) {
	const n = 1 << 17
	for name, cost := range map[string]func(i int) int{
		"rising":  func(i int) int { return i },
		"falling": func(i int) int { return n - 1 - i },
		"mixed":   func(i int) int { return i * 40503 % n },
	} {
		p := &pile.Pile{}
		for i := range n {
			p.Push(pile.Item{Cost: cost(i)})
		}
		if l := p.All(); len(l) != n || l[0].Cost != 0 || l[n-1].Cost != n-1 {
			t.Fatalf("%s: %d items", name, len(l))
		}
		for i := range n {
			if x, there := p.Pop(); !there || x.Cost != i {
				t.Fatalf("%s: Pop %d = %v %v", name, i, x, there)
			}
		}
		expect(t, p, nil)
	}
}

// Types: one that nobody made has no items, and takes some.
func TestNobodyMade(t *testing.T) {
	var p pile.Pile
	expect(t, &p, nil)
	if x, there := p.Pop(); x != (pile.Item{}) || there {
		t.Errorf("Pop = %v %v", x, there)
	}
	if l := p.Least(3); len(l) > 0 {
		t.Errorf("Least(3) = %v", l)
	}
	p.Push(pile.Item{})
	expect(t, &p, []pile.Item{{}})
	if x, there := p.Pop(); x != (pile.Item{}) || !there {
		t.Errorf("Pop of a zero item = %v %v", x, there)
	}
	expect(t, &p, nil)
}

// Types: none has nothing, whatever is pushed there.
func TestNone(t *testing.T) {
	var p *pile.Pile
	for range 2 {
		expect(t, p, nil)
		if x, there := p.Pop(); x != (pile.Item{}) || there {
			t.Errorf("Pop = %v %v", x, there)
		}
		for _, n := range []int{math.MinInt, 0, 1, math.MaxInt} {
			if l := p.Least(n); len(l) > 0 {
				t.Errorf("Least(%d) = %v", n, l)
			}
		}
		p.Push(pile.Item{1, 2, 3})
	}
}
