package judge

import (
	"math/rand"
	"slices"
	"sync"
	"testing"

	"charterhouse/api"
	"charterhouse/deed"
)

// model is a ledger that keeps nothing but its transactions, in one list.
type model struct {
	kept []modelDeed
	// What was proposed to it, whether accepted or not: later transactions spend outputs of these.
	proposed []api.Deed
	// How often each state was seen, of single transactions and of pairs.
	single, pairs [4]int
}

type modelDeed struct {
	id uint64
	d  api.Deed
}

func (m *model) find(id uint64) (api.Deed, bool) {
	for _, k := range m.kept {
		if k.id == id {
			return k.d, true
		}
	}
	return api.Deed{}, false
}

func (m *model) judge(d api.Deed) (int, []uint64, api.Errno) {
	if e := deed.Check(d); e != api.OK {
		return 0, nil, e
	}
	var lost []uint64
	for _, in := range d.Ins {
		if _, has := m.find(in.ID); !has && !slices.Contains(lost, in.ID) {
			lost = append(lost, in.ID)
		}
	}
	if lost != nil {
		return api.Lost, lost, api.OK
	}
	for _, in := range d.Ins {
		if from, _ := m.find(in.ID); in.At >= from.Outs {
			return api.Wicked, nil, api.OK
		}
		for _, k := range m.kept {
			if slices.Contains(k.d.Ins, in) {
				return api.Wicked, nil, api.OK
			}
		}
	}
	if d.Fee*10 < d.Weight {
		return api.Poor, nil, api.OK
	}
	return api.Good, nil, api.OK
}

func (m *model) accept(d api.Deed) api.Errno {
	state, _, e := m.judge(d)
	if e != api.OK {
		return e
	}
	if _, has := m.find(idOf(d)); has {
		return api.ErrTwice
	}
	if state >= api.Lost {
		return api.ErrState
	}
	d.Ins = slices.Clone(d.Ins)
	m.kept = append(m.kept, modelDeed{idOf(d), d})
	return api.OK
}

// pair judges the child in a model that accepted the parent besides.
func (m *model) pair(parent, child api.Deed) (int, api.Errno) {
	state, _, e := m.judge(parent)
	if e != api.OK {
		return 0, e
	}
	if e := deed.Check(child); e != api.OK {
		return 0, e
	}
	id := idOf(parent)
	if !slices.ContainsFunc(child.Ins, func(in api.In) bool { return in.ID == id }) {
		return 0, api.ErrForm
	}
	if state != api.Poor {
		return state, api.OK
	}
	with := model{kept: slices.Clone(m.kept)}
	with.accept(parent)
	state, _, _ = with.judge(child)
	if state >= api.Lost {
		return state, api.OK
	}
	if 10*parent.Fee+10*child.Fee < parent.Weight+child.Weight {
		return api.Poor, api.OK
	}
	return api.Good, api.OK
}

// compare checks All, Has and Deed, of what is kept and what is not.
func (m *model) compare(t *testing.T, l *Ledger) {
	t.Helper()
	var ids []uint64
	for _, k := range m.kept {
		ids = append(ids, k.id)
		expectDeed(t, l, k.id, k.d)
	}
	if got := l.All(); !slices.Equal(got, ids) {
		t.Errorf("All() = %d, want %d", got, ids)
	}
	for _, d := range m.proposed {
		if _, has := m.find(idOf(d)); !has {
			expectGone(t, l, idOf(d))
		}
	}
	expectGone(t, l, lostIDs...)
}

// draw returns a transaction; it often spends what was proposed before, and what others spend too.
func (m *model) draw(number func(n int) int) api.Deed {
	d := api.Deed{Outs: 1 + number(4), Fee: number(4)}
	d.Weight = max(1, 10*d.Fee-2+number(6))
	if number(4) == 0 {
		d.Weight = 1 + number(100)
	}
	for range number(4) {
		if in := m.drawIn(number); !slices.Contains(d.Ins, in) {
			d.Ins = append(d.Ins, in)
		}
	}
	if number(30) == 0 {
		d.Outs = 17 * number(2)
	}
	if number(30) == 0 && len(d.Ins) > 0 {
		d.Ins = append(d.Ins, d.Ins[0])
	}
	return d
}

func (m *model) drawIn(number func(n int) int) api.In {
	if len(m.proposed) == 0 || number(12) == 0 {
		return api.In{ID: uint64(number(3)), At: number(3)}
	}
	from := m.proposed[number(len(m.proposed))]
	at := number(from.Outs)
	if number(12) == 0 {
		at = number(16)
	}
	return out(from, at)
}

// drawPair returns two transactions, of which the second one often spends an output of the first one.
func (m *model) drawPair(number func(n int) int) (parent, child api.Deed) {
	parent, child = m.draw(number), m.draw(number)
	if number(2) == 0 && len(m.proposed) > 0 {
		parent = m.proposed[number(len(m.proposed))]
	}
	if number(8) == 0 {
		return parent, child
	}
	if id, e := deed.ID(parent); e == api.OK {
		in := api.In{ID: id, At: number(parent.Outs + number(2))}
		child.Ins = slices.Insert(slices.Clone(child.Ins), number(len(child.Ins)+1), in)
	}
	if number(6) == 0 && len(parent.Ins) > 0 {
		child.Ins = append(child.Ins, parent.Ins[number(len(parent.Ins))])
	}
	return parent, child
}

// act does the same thing to a ledger and to its model; number draws a number below another one.
func (m *model) act(t *testing.T, l *Ledger, number func(n int) int) {
	t.Helper()
	if number(3) == 0 {
		parent, child := m.drawPair(number)
		got, e := l.Pair(parent, child)
		want, err := m.pair(parent, child)
		if got != want || e != err {
			t.Errorf("Pair(%v, %v) = %d, %d, want %d, %d", parent, child, got, e, want, err)
		}
		if err == api.OK {
			m.pairs[want]++
		}
		return
	}
	d := m.draw(number)
	if number(4) == 0 && len(m.proposed) > 0 {
		d = m.proposed[number(len(m.proposed))]
	}
	state, ids, e := l.Judge(d)
	want, missing, err := m.judge(d)
	if state != want || !slices.Equal(ids, missing) || e != err {
		t.Errorf("Judge(%v) = %d, %d, %d, want %d, %d, %d", d, state, ids, e, want, missing, err)
	}
	if number(3) > 0 {
		expect(t, l.Accept(d), m.accept(d))
	}
	if err == api.OK {
		m.single[want]++
		m.proposed = append(m.proposed, d)
	}
}

func TestAgainstModel(t *testing.T) {
	random := rand.New(rand.NewSource(1))
	var single, pairs [4]int
	for range 200 {
		l, m := New(), &model{}
		for range 60 {
			m.act(t, l, random.Intn)
			m.compare(t, l)
			if t.Failed() {
				t.FailNow()
			}
		}
		for state := range 4 {
			single[state] += m.single[state]
			pairs[state] += m.pairs[state]
		}
	}
	for state := range 4 {
		if single[state] < 200 || pairs[state] < 100 {
			t.Errorf("state %d was seen only %d times, and %d times of pairs", state, single[state], pairs[state])
		}
	}
}

// FuzzLedger takes the bytes as numbers that choose what is done.
func FuzzLedger(f *testing.F) {
	f.Add([]byte{})
	f.Add([]byte{1, 2, 1, 0, 1, 1, 1, 1, 1, 1, 0, 1, 1, 1, 1, 1, 1, 2, 1, 1, 0, 0})
	f.Add(slices.Repeat([]byte{3, 1, 9, 4, 1, 7, 1, 2, 5, 8, 2, 250}, 20))
	f.Fuzz(func(t *testing.T, b []byte) {
		number := func(n int) int {
			if len(b) == 0 {
				return 0
			}
			c := int(b[0]) % n
			b = b[1:]
			return c
		}
		l, m := New(), &model{}
		for len(b) > 0 {
			m.act(t, l, number)
		}
		m.compare(t, l)
	})
}

// TestTwoLedgers uses ledgers in turn, with transactions that only one of them contains, and that both contain.
func TestTwoLedgers(t *testing.T) {
	base := free(2, 100, 10)
	first, second := spending(out(base, 0)), spending(out(base, 0), out(base, 1))
	a, b := New(), New()
	accept(t, a, base)
	expectAll(t, b)
	expectState(t, b, first, api.Lost, idOf(base))
	accept(t, b, free(1, 10, 1), base)
	accept(t, a, first)
	accept(t, b, second)
	acceptFails(t, a, second, api.ErrState)
	acceptFails(t, b, first, api.ErrState)
	expectAll(t, a, base, first)
	expectAll(t, b, free(1, 10, 1), base, second)

	random := rand.New(rand.NewSource(2))
	for range 20 {
		ledgers, models := [2]*Ledger{New(), New()}, [2]*model{{}, {}}
		for i := range 120 {
			models[i%2].act(t, ledgers[i%2], random.Intn)
			// What was proposed to one of them is proposed to the other one later.
			models[(i+1)%2].proposed = slices.Clone(models[i%2].proposed)
			models[0].compare(t, ledgers[0])
			models[1].compare(t, ledgers[1])
		}
	}
}

// memoryOf returns a slice with unused capacity: Ins that spend outputs of a transaction.
func memoryOf(d api.Deed) []api.In {
	memory := make([]api.In, 12)
	for i := range memory {
		memory[i] = out(d, 11-i)
	}
	return memory
}

// TestArgumentsAreNotChanged passes Ins with unused capacity, which stay as they are.
func TestArgumentsAreNotChanged(t *testing.T) {
	base, poor := free(16, 100, 10), free(12, 100, 0)
	for _, from := range []api.Deed{base, poor, free(3, 3, 3)} {
		for n := range 10 {
			l := holding(t, base)
			memory, ins := memoryOf(from), memoryOf(base)
			d, parent := spending(memory[:n]...), paying(spending(ins[n:n+2]...), 100, 0)
			l.Judge(d)
			l.Pair(poor, d)
			l.Pair(base, d)
			l.Pair(parent, paying(spending(out(parent, 0), ins[n]), 10, 100))
			l.Pair(d, spending(api.In{ID: 5}))
			l.Accept(d)
			l.Accept(parent)
			l.Judge(d)
			l.All()
			if !slices.Equal(memory, memoryOf(from)) || !slices.Equal(ins, memoryOf(base)) {
				t.Errorf("with %d Ins: changed to %v and %v", n, memory, ins)
			}
			if len(d.Ins) != n || d.Outs != 2 || d.Weight != 10 || d.Fee != 1 {
				t.Errorf("changed to %v", d)
			}
		}
	}
}

// TestArgumentsAreNotKept changes transactions, up to the capacity of their Ins, after they were passed.
func TestArgumentsAreNotKept(t *testing.T) {
	base := free(16, 100, 10)
	for n := range 9 {
		l := holding(t, base)
		memory := memoryOf(base)
		d := spending(memory[:n]...)
		want := spending(slices.Clone(memory[:n])...)
		child := paying(spending(out(d, 1)), 10, 3)
		expectState(t, l, d, api.Good)
		accept(t, l, d)
		scribble(memory, out(base, 15))
		d.Outs, d.Weight, d.Fee = 7, 7, 7
		expectAll(t, l, base, want)
		expectState(t, l, spending(out(base, 15)), api.Good)
		for i := range 12 {
			state := api.Good
			if i < n {
				state = api.Wicked
			}
			expectState(t, l, spending(memoryOf(base)[i]), state)
		}
		expectState(t, l, spending(out(want, 2)), api.Wicked)
		accept(t, l, child)
		expectAll(t, l, base, want, child)
	}
}

// TestJudgedIsNotKept changes transactions after they were judged, alone and in pairs, or refused.
func TestJudgedIsNotKept(t *testing.T) {
	base, poor := free(16, 100, 10), free(3, 100, 0)
	l := holding(t, base)
	ins := []api.In{out(base, 1), out(poor, 0)}
	before := look(l, poor, spending(out(base, 1)))
	l.Judge(spending(ins...))
	l.Pair(poor, paying(spending(ins...), 10, 100))
	l.Accept(spending(ins...))
	scribble(ins, out(base, 3))
	expectSame(t, before, look(l, poor, spending(out(base, 1))))
	expectAll(t, l, base)
}

// scribble changes a slice up to its capacity.
func scribble[T any](s []T, value T) {
	s = s[:cap(s)]
	for i := range s {
		s[i] = value
	}
}

// TestResultsAreOwn changes what a ledger returned, up to the capacity, which changes nothing in it and in other results.
func TestResultsAreOwn(t *testing.T) {
	base := free(16, 100, 10)
	all := []api.Deed{base}
	for n := range 5 {
		all = append(all, spending(memoryOf(base)[2*n:2*n+2]...))
	}
	l := holding(t, all...)
	lost := spending(api.In{ID: 5}, out(base, 13), api.In{ID: 6}, api.In{ID: 7})
	for range 3 {
		ids, again := l.All(), l.All()
		_, missing, _ := l.Judge(lost)
		_, missingAgain, _ := l.Judge(lost)
		d, _ := l.Deed(idOf(all[2]))
		e, _ := l.Deed(idOf(all[2]))
		scribble(ids, 99)
		scribble(missing, 99)
		scribble(d.Ins, out(base, 15))
		if slices.Contains(again, 99) || !slices.Equal(missingAgain, []uint64{5, 6, 7}) || !same(e, all[2]) {
			t.Errorf("results share memory: %d, %d, %v", again, missingAgain, e)
		}
		expectAll(t, l, all...)
		expectState(t, l, lost, api.Lost, 5, 6, 7)
		expectState(t, l, spending(out(base, 15)), api.Good)
		expectState(t, l, spending(all[2].Ins[0]), api.Wicked)
		if lost.Ins[0].ID != 5 || lost.Ins[2].ID != 6 {
			t.Errorf("a result shares memory with an argument: %v", lost)
		}
	}
	// A result stays as it is while the ledger grows, also if the caller appends to it.
	ids := l.All()
	_ = append(ids, 99)
	d, _ := l.Deed(idOf(all[1]))
	_ = append(d.Ins, out(base, 15))
	accept(t, l, free(1, 10, 1))
	_ = append(ids, 99)
	expectAll(t, l, append(slices.Clone(all), free(1, 10, 1))...)
	if len(ids) != len(all) || ids[0] != idOf(base) || !same(d, all[1]) {
		t.Errorf("results changed: %d, %v", ids, d)
	}
}

// TestDeedPassedOn accepts what Deed of another ledger returned, and changes it then.
func TestDeedPassedOn(t *testing.T) {
	base := free(16, 100, 10)
	child := spending(out(base, 4), out(base, 5))
	a, b := holding(t, base, child), holding(t, base)
	d, _ := a.Deed(idOf(child))
	accept(t, b, d)
	acceptFails(t, a, d, api.ErrTwice)
	scribble(d.Ins, out(base, 6))
	for _, l := range []*Ledger{a, b} {
		expectAll(t, l, base, child)
		expectState(t, l, spending(out(base, 6)), api.Good)
	}
}

// TestZeroLedger has a ledger that New did not make: P1 says that no call panics, and it is an empty one.
func TestZeroLedger(t *testing.T) {
	calls := []func(l *Ledger){
		func(l *Ledger) { l.Judge(free(1, 10, 1)) },
		func(l *Ledger) { l.Judge(spending(api.In{ID: 5})) },
		func(l *Ledger) { l.Pair(free(1, 10, 0), spending(out(free(1, 10, 0), 0))) },
		func(l *Ledger) { l.Accept(spending(api.In{ID: 5})) },
		func(l *Ledger) { l.Accept(api.Deed{}) },
		func(l *Ledger) { l.Has(1) },
		func(l *Ledger) { l.Deed(1) },
		func(l *Ledger) { l.All() },
	}
	random := rand.New(rand.NewSource(3))
	for _, call := range calls {
		var l Ledger
		call(&l)
		m := &model{}
		m.compare(t, &l)
		for range 60 {
			m.act(t, &l, random.Intn)
			m.compare(t, &l)
		}
	}
	var l Ledger
	accept(t, &l, free(1, 10, 1), spending(out(free(1, 10, 1), 0)))
	expectAll(t, &l, free(1, 10, 1), spending(out(free(1, 10, 1), 0)))
}

// TestSeparateGoroutines uses one ledger per goroutine, all at once, for the race detector.
func TestSeparateGoroutines(t *testing.T) {
	var all sync.WaitGroup
	for seed := range int64(8) {
		l, m := New(), &model{}
		random := rand.New(rand.NewSource(seed))
		all.Go(func() {
			for range 60 {
				m.act(t, l, random.Intn)
				m.compare(t, l)
			}
		})
	}
	all.Wait()
}
