package ring

import (
	"math"
	"math/rand"
	"slices"
	"sync"
	"testing"

	"charterhouse/api"
)

// newRing returns a new filter of a size that is in range.
func newRing(t testing.TB, size int) *Ring {
	t.Helper()
	r, e := New(size)
	if r == nil || e != api.OK {
		t.Fatalf("New(%d) = %v, %d", size, r, e)
	}
	return r
}

// expectIDs checks that a filter contains just these IDs, of those and of others that are near to them in some way.
func expectIDs(t *testing.T, r *Ring, want ...uint64) {
	t.Helper()
	if got := r.Count(); got != len(want) {
		t.Errorf("Count = %d, want %d: %d", got, len(want), want)
	}
	for _, id := range append(strangers(want), want...) {
		if got := r.Has(id); got != slices.Contains(want, id) {
			t.Errorf("Has(%d) = %t, want IDs %d", id, got, want)
		}
	}
}

// strangers returns IDs that differ from the given ones, or from small ones, in a few bits or by a little.
func strangers(ids []uint64) []uint64 {
	out := []uint64{0, 1, 1 << 31, 1 << 32, 1 << 63, math.MaxUint32, math.MaxInt64, math.MaxUint64}
	for i := range uint64(120) {
		out = append(out, i)
	}
	for _, id := range ids {
		out = append(out, id+1, id-1, ^id, -id, id^1<<8, id^1<<32, id^1<<63, id>>32|id<<32)
	}
	return out
}

// putAll puts IDs in their order.
func putAll(r *Ring, ids ...uint64) {
	for _, id := range ids {
		r.Put(id)
	}
}

// span returns the IDs from first to before last.
func span(first, last int) []uint64 {
	var ids []uint64
	for i := first; i < last; i++ {
		ids = append(ids, uint64(i))
	}
	return ids
}

func TestNewSizes(t *testing.T) {
	for size := 1; size <= 50; size++ {
		expectIDs(t, newRing(t, size))
	}
	wrong := []int{0, -1, -2, -49, -50, -51, 51, 52, 100, 127, 128, 255, 256, 257, 306, 65536, 65537, 1 << 32, 1<<32 + 1,
		1<<32 + 50, -1 << 32, -1<<32 + 1, math.MinInt, math.MinInt + 1, math.MinInt + 50, math.MaxInt - 1, math.MaxInt}
	for _, size := range wrong {
		if r, e := New(size); r != nil || e != api.ErrArg {
			t.Errorf("New(%d) = %v, %d, want nil, %d", size, r, e, api.ErrArg)
		}
	}
}

// TestPutSteps has, for each Put of a filter, the IDs that are contained after it.
func TestPutSteps(t *testing.T) {
	type step struct {
		id   uint64
		want []uint64
	}
	tests := []struct {
		name  string
		size  int
		steps []step
	}{
		{"size 1: the last two", 1, []step{
			{7, []uint64{7}},
			{8, []uint64{7, 8}},
			{9, []uint64{8, 9}},
			{10, []uint64{9, 10}},
			{7, []uint64{10, 7}},
		}},
		{"size 1: one ID again and again", 1, []step{
			{7, []uint64{7}},
			{7, []uint64{7}},
			{7, []uint64{7}},
			{8, []uint64{7, 8}},
			{8, []uint64{7, 8}},
			{8, []uint64{7, 8}},
			{9, []uint64{8, 9}},
		}},
		{"size 1: two IDs in turn", 1, []step{
			{7, []uint64{7}},
			{8, []uint64{7, 8}},
			{7, []uint64{7, 8}},
			{8, []uint64{7, 8}},
			{9, []uint64{8, 9}},
			{8, []uint64{8, 9}},
			{7, []uint64{7, 8}},
		}},
		{"size 2: several generations", 2, []step{
			{1, []uint64{1}},
			{2, []uint64{1, 2}},
			{3, []uint64{1, 2, 3}},
			{4, []uint64{1, 2, 3, 4}},
			{5, []uint64{3, 4, 5}},
			{6, []uint64{3, 4, 5, 6}},
			{7, []uint64{5, 6, 7}},
			{1, []uint64{5, 6, 7, 1}},
			{2, []uint64{7, 1, 2}},
		}},
		// A full generation does not end for an ID that it contains.
		{"size 2: IDs of the full current generation", 2, []step{
			{1, []uint64{1}},
			{2, []uint64{1, 2}},
			{1, []uint64{1, 2}},
			{2, []uint64{1, 2}},
			{1, []uint64{1, 2}},
			{3, []uint64{1, 2, 3}},
			{4, []uint64{1, 2, 3, 4}},
			{3, []uint64{1, 2, 3, 4}},
			{4, []uint64{1, 2, 3, 4}},
			{5, []uint64{3, 4, 5}},
		}},
		// An ID of the previous generation takes a place in the current one and outlives the others.
		{"size 2: IDs of the previous generation", 2, []step{
			{1, []uint64{1}},
			{2, []uint64{1, 2}},
			{3, []uint64{1, 2, 3}},
			{1, []uint64{1, 2, 3}},
			{4, []uint64{1, 3, 4}},
			{3, []uint64{1, 3, 4}},
			{5, []uint64{3, 4, 5}},
		}},
		// An ID of the previous generation ends a full current one, and is then in the current one alone.
		{"size 2: an ID of the previous generation at a full current one", 2, []step{
			{1, []uint64{1}},
			{2, []uint64{1, 2}},
			{3, []uint64{1, 2, 3}},
			{4, []uint64{1, 2, 3, 4}},
			{1, []uint64{1, 3, 4}},
			{2, []uint64{1, 2, 3, 4}},
			{5, []uint64{1, 2, 5}},
		}},
		{"size 3: all IDs but one in both generations", 3, []step{
			{1, []uint64{1}},
			{2, []uint64{1, 2}},
			{3, []uint64{1, 2, 3}},
			{4, []uint64{1, 2, 3, 4}},
			{2, []uint64{1, 2, 3, 4}},
			{3, []uint64{1, 2, 3, 4}},
			{1, []uint64{1, 2, 3, 4}},
			{2, []uint64{1, 2, 3, 4}},
			{3, []uint64{1, 2, 3, 4}},
			{4, []uint64{1, 2, 3, 4}},
			{5, []uint64{1, 2, 3, 4, 5}},
			{6, []uint64{1, 2, 3, 4, 5, 6}},
			{1, []uint64{1, 4, 5, 6}},
		}},
		{"size 3: IDs at the ends of their range", 3, []step{
			{0, []uint64{0}},
			{math.MaxUint64, []uint64{0, math.MaxUint64}},
			{1 << 63, []uint64{0, math.MaxUint64, 1 << 63}},
			{1 << 32, []uint64{0, math.MaxUint64, 1 << 63, 1 << 32}},
			{0, []uint64{0, math.MaxUint64, 1 << 63, 1 << 32}},
			{1, []uint64{0, math.MaxUint64, 1 << 63, 1 << 32, 1}},
			{2, []uint64{1 << 32, 0, 1, 2}},
		}},
	}
	for _, test := range tests {
		t.Run(test.name, func(t *testing.T) {
			r := newRing(t, test.size)
			for _, s := range test.steps {
				r.Put(s.id)
				expectIDs(t, r, s.want...)
			}
		})
	}
}

// TestPutNewIDs puts IDs that differ: the full generations and the one that has begun are known from their number.
func TestPutNewIDs(t *testing.T) {
	for size := 1; size <= 50; size++ {
		r := newRing(t, size)
		for n := 1; n <= 5*size+1; n++ {
			r.Put(uint64(n - 1))
			begun := (n - 1) / size * size
			expectIDs(t, r, span(max(begun-size, 0), n)...)
		}
	}
}

// TestPutTwice repeats each Put, which has no effect.
func TestPutTwice(t *testing.T) {
	for _, size := range []int{1, 2, 3, 49, 50} {
		once, twice := newRing(t, size), newRing(t, size)
		for i := range 4*size + 2 {
			id := uint64(i)
			once.Put(id)
			putAll(twice, id, id, id)
			if once.Count() != twice.Count() {
				t.Errorf("size %d: Count = %d after %d twice, want %d", size, twice.Count(), id, once.Count())
			}
			for _, old := range span(0, i+2) {
				if once.Has(old) != twice.Has(old) {
					t.Errorf("size %d: Has(%d) = %t after %d twice", size, old, twice.Has(old), id)
				}
			}
		}
	}
}

// TestPutCurrent puts all IDs of the current generation again, at each number of them, the full one too.
func TestPutCurrent(t *testing.T) {
	for _, size := range []int{1, 2, 5, 50} {
		for n := 1; n <= size; n++ {
			r := newRing(t, size)
			putAll(r, span(1000, 1000+size)...)
			putAll(r, span(0, n)...)
			for range 3 {
				putAll(r, span(0, n)...)
				expectIDs(t, r, append(span(1000, 1000+size), span(0, n)...)...)
			}
		}
	}
}

// TestPutPrevious puts each ID of the previous generation, at each number of IDs in the current one.
func TestPutPrevious(t *testing.T) {
	for _, size := range []int{1, 2, 5, 20} {
		for n := 1; n <= size; n++ {
			for _, id := range span(1000, 1000+size) {
				r := newRing(t, size)
				putAll(r, span(1000, 1000+size)...)
				putAll(r, span(0, n)...)
				r.Put(id)
				if n == size {
					expectIDs(t, r, append(span(0, n), id)...)
					continue
				}
				expectIDs(t, r, append(span(1000, 1000+size), span(0, n)...)...)
				// It counts in the current generation, which is full by fewer others now.
				putAll(r, span(500, 500+size-n-1)...)
				r.Put(600)
				want := append(append(span(0, n), id, 600), span(500, 500+size-n-1)...)
				expectIDs(t, r, want...)
			}
		}
	}
}

// TestHasDropped has the IDs that just one more Put drops, and those that it does not.
func TestHasDropped(t *testing.T) {
	for _, size := range []int{1, 2, 7, 50} {
		r := newRing(t, size)
		putAll(r, span(0, 2*size)...)
		expectIDs(t, r, span(0, 2*size)...)
		r.Put(uint64(2 * size))
		expectIDs(t, r, span(size, 2*size+1)...)
		// A dropped ID is new again.
		r.Put(0)
		want := append(span(size, 2*size+1), 0)
		if size == 1 {
			want = []uint64{2, 0}
		}
		expectIDs(t, r, want...)
	}
}

// TestCountBoth has each number of IDs that lie in both generations.
func TestCountBoth(t *testing.T) {
	for _, size := range []int{1, 2, 3, 10, 50} {
		for both := range size {
			r := newRing(t, size)
			putAll(r, span(0, size)...)
			r.Put(1000)
			for i, id := range span(0, both) {
				r.Put(id)
				if got := r.Count(); got != size+1 {
					t.Errorf("size %d, %d IDs in both: Count = %d, want %d", size, i+1, got, size+1)
				}
			}
			expectIDs(t, r, append(span(0, size), 1000)...)
		}
	}
}

// TestReset resets filters with each number of IDs, and uses them after it like new ones.
func TestReset(t *testing.T) {
	for _, size := range []int{1, 2, 3, 20} {
		for n := range 4*size + 1 {
			r := newRing(t, size)
			putAll(r, span(0, n)...)
			r.Reset()
			expectIDs(t, r)
			r.Reset()
			expectIDs(t, r)
			// The same IDs and others, so that something that is left would be found.
			for i := range 3*size + 1 {
				r.Put(uint64(n + i - size))
				begun := i / size * size
				expectIDs(t, r, span(n-size+max(begun-size, 0), n-size+i+1)...)
			}
			r.Reset()
			expectIDs(t, r)
		}
	}
}

// TestResetBoth resets a filter in which IDs lie in both generations.
func TestResetBoth(t *testing.T) {
	r := newRing(t, 3)
	putAll(r, 1, 2, 3, 4, 2, 1)
	r.Reset()
	expectIDs(t, r)
	putAll(r, 1, 2)
	expectIDs(t, r, 1, 2)
	putAll(r, 3, 4)
	expectIDs(t, r, 1, 2, 3, 4)
	putAll(r, 5, 6, 7)
	expectIDs(t, r, 4, 5, 6, 7)
}

// TestTwoFilters uses filters in turn, whose sizes are the same or differ.
func TestTwoFilters(t *testing.T) {
	for _, sizes := range [][2]int{{2, 2}, {1, 3}, {50, 1}} {
		a, b := newRing(t, sizes[0]), newRing(t, sizes[1])
		if a == b {
			t.Fatal("New returned a filter twice")
		}
		modelA, modelB := model{size: sizes[0]}, model{size: sizes[1]}
		for i := range 200 {
			a.Put(uint64(i))
			modelA.put(uint64(i))
			b.Put(uint64(i/2) + 50)
			modelB.put(uint64(i/2) + 50)
			switch i {
			case 67:
				a.Reset()
				modelA.reset()
			case 131:
				b.Reset()
				modelB.reset()
			}
			expectIDs(t, a, modelA.ids()...)
			expectIDs(t, b, modelB.ids()...)
		}
	}
}

// model is a filter that keeps its IDs in lists, by the words of P8.
type model struct {
	size              int
	current, previous []uint64
}

func (m *model) put(id uint64) {
	if slices.Contains(m.current, id) {
		return
	}
	if len(m.current) == m.size {
		m.previous, m.current = m.current, nil
	}
	m.current = append(m.current, id)
}

func (m *model) reset() {
	m.current, m.previous = nil, nil
}

func (m *model) ids() []uint64 {
	all := slices.Concat(m.current, m.previous)
	slices.Sort(all)
	return slices.Compact(all)
}

// compare checks what a filter contains, of the IDs from 0 to before top.
func compare(t *testing.T, r *Ring, m *model, top uint64) {
	t.Helper()
	want := m.ids()
	if got := r.Count(); got != len(want) {
		t.Fatalf("size %d: Count = %d, want %d", m.size, got, len(want))
	}
	for id := range top {
		if got := r.Has(id); got != slices.Contains(want, id) {
			t.Fatalf("size %d: Has(%d) = %t, want %d", m.size, id, got, want)
		}
	}
}

// TestAgainstModel has numbers of different IDs near the size, where they are often in one or both generations.
func TestAgainstModel(t *testing.T) {
	random := rand.New(rand.NewSource(4))
	for size := 1; size <= 50; size++ {
		for _, top := range []int{size, size + 1, size + 2, 2 * size, 2*size + 1, 3*size + 5} {
			r, m := newRing(t, size), &model{size: size}
			for range 300 {
				if random.Intn(100) == 0 {
					r.Reset()
					m.reset()
				} else {
					id := uint64(random.Intn(top))
					r.Put(id)
					m.put(id)
				}
				compare(t, r, m, uint64(top)+2)
			}
		}
	}
}

// FuzzRing takes each byte after the first as a Put, or as a Reset if it is 255.
func FuzzRing(f *testing.F) {
	f.Add([]byte{0, 1, 2, 3, 2, 1, 255, 1})
	f.Add([]byte{1, 1, 2, 3, 4, 5, 3, 5, 1})
	f.Add([]byte{49, 1, 2, 3, 4, 5, 3, 5, 1, 255, 255, 9})
	f.Fuzz(func(t *testing.T, b []byte) {
		if len(b) == 0 {
			return
		}
		size := int(b[0])%50 + 1
		r, m := newRing(t, size), &model{size: size}
		for _, c := range b[1:] {
			if c == 255 {
				r.Reset()
				m.reset()
			} else {
				r.Put(uint64(c))
				m.put(uint64(c))
			}
			compare(t, r, m, 256)
		}
	})
}

// TestLookingChangesNothing calls Has and Count often between the calls of Put.
func TestLookingChangesNothing(t *testing.T) {
	looked, other := newRing(t, 2), newRing(t, 2)
	for i := range 50 {
		id := uint64(i*i) % 7
		for old := range uint64(10) {
			for range 3 {
				looked.Has(old)
				looked.Count()
			}
		}
		looked.Put(id)
		other.Put(id)
		compare(t, looked, &model{size: 2, current: contained(other)}, 10)
	}
}

// contained returns the IDs below 10 of a filter.
func contained(r *Ring) []uint64 {
	var ids []uint64
	for id := range uint64(10) {
		if r.Has(id) {
			ids = append(ids, id)
		}
	}
	return ids
}

// TestZeroRing has a filter that New did not make: P1 says that no call panics, and it keeps few IDs.
func TestZeroRing(t *testing.T) {
	var r Ring
	expectIDs(t, &r)
	r.Reset()
	expectIDs(t, &r)
	for i := range uint64(1000) {
		putAll(&r, i, i)
		if !r.Has(i) {
			t.Errorf("Has(%d) after Put = false", i)
		}
		if n := r.Count(); n < 1 || n > 2 {
			t.Errorf("Count = %d after %d", n, i)
		}
	}
	r.Reset()
	expectIDs(t, &r)
}

// TestStateIsBounded looks into a filter: it keeps its generations and nothing of those before them.
func TestStateIsBounded(t *testing.T) {
	for _, size := range []int{1, 2, 50} {
		r := newRing(t, size)
		for i := range 10000 {
			r.Put(uint64(i))
			if len(r.current) > size || len(r.previous) > size {
				t.Fatalf("size %d: generations of %d and %d IDs", size, len(r.current), len(r.previous))
			}
		}
	}
}

// TestSeparateGoroutines uses one filter per goroutine, all at once, for the race detector.
func TestSeparateGoroutines(t *testing.T) {
	var all sync.WaitGroup
	for size := 1; size <= 8; size++ {
		r, m := newRing(t, size), &model{size: size}
		all.Go(func() {
			for i := range 300 {
				id := uint64(i*7) % 23
				r.Put(id)
				m.put(id)
				if got, want := r.Count(), len(m.ids()); got != want {
					t.Errorf("size %d: Count = %d, want %d", size, got, want)
				}
			}
		})
	}
	all.Wait()
}
