package judge

import (
	"math"
	"reflect"
	"slices"
	"testing"

	"charterhouse/api"
	"charterhouse/deed"
)

// lostIDs are IDs that no transaction of the tests has.
var lostIDs = []uint64{0, 1, 2, 1 << 32, 1 << 63, math.MaxUint64 - 1, math.MaxUint64}

// free returns a transaction without Ins.
func free(outs, weight, fee int) api.Deed {
	return api.Deed{Outs: outs, Weight: weight, Fee: fee}
}

// spending returns a transaction that is Good if its Ins allow it.
func spending(ins ...api.In) api.Deed {
	return api.Deed{Ins: ins, Outs: 2, Weight: 10, Fee: 1}
}

// paying returns a transaction with other numbers than d.
func paying(d api.Deed, weight, fee int) api.Deed {
	d.Weight, d.Fee = weight, fee
	return d
}

// idOf returns the ID of a transaction without errors.
func idOf(d api.Deed) uint64 {
	id, e := deed.ID(d)
	if e != api.OK {
		panic("a test has a wrong transaction")
	}
	return id
}

// out returns the In that spends an output of a transaction.
func out(d api.Deed, at int) api.In {
	return api.In{ID: idOf(d), At: at}
}

// same reports whether two transactions are equal; no Ins are equal to an empty slice of them.
func same(a, b api.Deed) bool {
	return slices.Equal(a.Ins, b.Ins) && a.Outs == b.Outs && a.Weight == b.Weight && a.Fee == b.Fee
}

// expect checks the error of a call.
func expect(t *testing.T, got, want api.Errno) {
	t.Helper()
	if got != want {
		t.Errorf("error %d, want %d", got, want)
	}
}

// accept accepts transactions.
func accept(t *testing.T, l *Ledger, deeds ...api.Deed) {
	t.Helper()
	for _, d := range deeds {
		if e := l.Accept(d); e != api.OK {
			t.Errorf("Accept(%v) = %d", d, e)
		}
	}
}

// holding returns a ledger that accepted some transactions.
func holding(t *testing.T, deeds ...api.Deed) *Ledger {
	t.Helper()
	l := New()
	accept(t, l, deeds...)
	return l
}

// acceptFails checks that a transaction is refused and that this changes nothing.
func acceptFails(t *testing.T, l *Ledger, d api.Deed, want api.Errno) {
	t.Helper()
	before := look(l, d)
	if e := l.Accept(d); e != want {
		t.Errorf("Accept(%v) = %d, want %d", d, e, want)
	}
	expectSame(t, before, look(l, d))
}

// expectState checks Judge, and that it changes nothing.
func expectState(t *testing.T, l *Ledger, d api.Deed, want int, missing ...uint64) {
	t.Helper()
	before := look(l)
	if got, ids, e := l.Judge(d); got != want || !slices.Equal(ids, missing) || e != api.OK {
		t.Errorf("Judge(%v) = %d, %d, %d, want %d, %d", d, got, ids, e, want, missing)
	}
	expectSame(t, before, look(l))
}

// judgeFails checks an error of Judge.
func judgeFails(t *testing.T, l *Ledger, d api.Deed, want api.Errno) {
	t.Helper()
	before := look(l)
	if state, ids, e := l.Judge(d); state != 0 || len(ids) != 0 || e != want {
		t.Errorf("Judge(%v) = %d, %d, %d, want error %d", d, state, ids, e, want)
	}
	expectSame(t, before, look(l))
}

// expectAll checks that a ledger contains these transactions in this order, and nothing else.
func expectAll(t *testing.T, l *Ledger, want ...api.Deed) {
	t.Helper()
	var ids []uint64
	for _, d := range want {
		ids = append(ids, idOf(d))
		expectDeed(t, l, idOf(d), d)
	}
	if got := l.All(); !slices.Equal(got, ids) {
		t.Errorf("All() = %d, want %d", got, ids)
	}
	expectGone(t, l, lostIDs...)
}

// expectDeed checks the transaction with an ID.
func expectDeed(t *testing.T, l *Ledger, id uint64, want api.Deed) {
	t.Helper()
	if got, e := l.Deed(id); !same(got, want) || e != api.OK || !l.Has(id) {
		t.Errorf("Deed(%d) = %v, %d, Has: %v, want %v", id, got, e, l.Has(id), want)
	}
}

// expectGone checks that some IDs are not contained.
func expectGone(t *testing.T, l *Ledger, ids ...uint64) {
	t.Helper()
	for _, id := range ids {
		d, e := l.Deed(id)
		if l.Has(id) || slices.Contains(l.All(), id) || !same(d, api.Deed{}) || e != api.ErrNone {
			t.Errorf("Has(%d) = %v, Deed(%d) = %v, %d, All() = %d, want it gone", id, l.Has(id), id, d, e, l.All())
		}
	}
}

// look returns all that can be seen of the transactions of a ledger, and of some others in it.
func look(l *Ledger, others ...api.Deed) []any {
	seen := []any{append([]uint64{}, l.All()...)}
	for _, id := range slices.Concat(l.All(), lostIDs) {
		d, e := l.Deed(id)
		d.Ins = append([]api.In{}, d.Ins...)
		seen = append(seen, l.Has(id), d, e)
		for at := range 16 {
			state, _, _ := l.Judge(spending(api.In{ID: id, At: at}))
			seen = append(seen, state)
		}
	}
	for _, d := range others {
		state, ids, e := l.Judge(d)
		seen = append(seen, state, append([]uint64{}, ids...), e)
		if id, e := deed.ID(d); e == api.OK {
			seen = append(seen, l.Has(id))
		}
	}
	return seen
}

// expectSame checks that nothing changed between two looks.
func expectSame(t *testing.T, before, after []any) {
	t.Helper()
	if !reflect.DeepEqual(before, after) {
		t.Errorf("changed from %v to %v", before, after)
	}
}

// wrongDeeds has transactions with each error of deed.Check, which all spend an output of id: of the ledger or missing.
func wrongDeeds(id uint64) map[api.Errno][]api.Deed {
	with := func(outs, weight, fee int, ins ...api.In) api.Deed {
		return api.Deed{Ins: append([]api.In{{ID: id}}, ins...), Outs: outs, Weight: weight, Fee: fee}
	}
	var nine []api.In
	for at := range 8 {
		nine = append(nine, api.In{ID: id, At: at + 1})
	}
	return map[api.Errno][]api.Deed{
		api.ErrLarge: {
			with(1, 10, 1, nine...),
			with(0, 0, -1, make([]api.In, 8)...),
			with(1, 10, 1, make([]api.In, 1000)...),
		},
		api.ErrTwice: {
			with(1, 10, 1, api.In{ID: id}),
			with(0, 1001, -1, api.In{ID: 7}, api.In{ID: id}),
			with(1, 10, 1, api.In{ID: 7, At: 3}, api.In{ID: 7, At: 3}),
		},
		api.ErrArg: {
			with(1, 10, 1, api.In{ID: id, At: 16}),
			with(1, 10, 1, api.In{ID: id, At: -1}, api.In{ID: id, At: -1}),
			with(1, 10, 1, api.In{ID: 7, At: math.MinInt}),
			with(0, 10, 1),
			with(17, 10, 1),
			with(-1, 10, 1),
			with(1, 0, 1),
			with(1, 1001, 1),
			with(1, math.MinInt, math.MaxInt),
			with(1, 10, -1),
			with(1, 10, 1001),
			with(1, math.MaxInt, math.MinInt),
			with(1, 10, math.MaxInt),
		},
	}
}

func TestNew(t *testing.T) {
	l := New()
	expectAll(t, l)
	expectGone(t, l, idOf(free(1, 1, 0)), 303629951263547664)
	if New() == l {
		t.Error("New returned a ledger twice")
	}
}

// TestJudgeErrors has each error of deed.Check where nothing is contained, and where the ID of the first In is.
func TestJudgeErrors(t *testing.T) {
	base := free(16, 100, 10)
	l := holding(t, base, spending(out(base, 3)))
	for _, id := range []uint64{9, idOf(base)} {
		for want, deeds := range wrongDeeds(id) {
			for _, d := range deeds {
				judgeFails(t, New(), d, want)
				judgeFails(t, l, d, want)
			}
		}
	}
	judgeFails(t, New(), api.Deed{}, api.ErrArg)
	judgeFails(t, l, api.Deed{}, api.ErrArg)
}

// TestNoIns has transactions without Ins: nothing is missing or spent, so the payment alone decides.
func TestNoIns(t *testing.T) {
	full := holding(t, free(1, 100, 10), free(2, 100, 9))
	for _, l := range []*Ledger{New(), full} {
		for _, ins := range [][]api.In{nil, {}} {
			for _, outs := range []int{1, 2, 16} {
				expectState(t, l, api.Deed{Ins: ins, Outs: outs, Weight: 100, Fee: 10}, api.Good)
				expectState(t, l, api.Deed{Ins: ins, Outs: outs, Weight: 100, Fee: 9}, api.Poor)
			}
		}
	}
}

// TestExample has the example of the chapter, for all weights that have a tenth.
func TestExample(t *testing.T) {
	for fee := 1; fee <= 100; fee++ {
		if state, ids, e := New().Judge(free(1, 10*fee, fee)); state != 0 || len(ids) != 0 || e != 0 {
			t.Errorf("Judge with Fee %d = %d, %d, %d", fee, state, ids, e)
		}
	}
}

// TestPayment has 10 times the Fee below, at and above the Weight.
func TestPayment(t *testing.T) {
	base := free(16, 100, 10)
	l := holding(t, base)
	tests := []struct{ weight, fee, want int }{
		{1, 0, api.Poor}, {1, 1, api.Good}, {9, 0, api.Poor},
		{9, 1, api.Good}, {10, 1, api.Good}, {11, 1, api.Poor},
		{10, 0, api.Poor}, {19, 1, api.Poor}, {19, 2, api.Good}, {20, 2, api.Good}, {21, 2, api.Poor},
		{99, 9, api.Poor}, {99, 10, api.Good}, {100, 10, api.Good}, {101, 10, api.Poor}, {101, 11, api.Good},
		{1000, 0, api.Poor}, {1000, 99, api.Poor}, {999, 99, api.Poor}, {991, 99, api.Poor}, {990, 99, api.Good},
		{1000, 100, api.Good}, {1000, 101, api.Good}, {1000, 1000, api.Good}, {1, 1000, api.Good},
	}
	for _, test := range tests {
		expectState(t, l, free(3, test.weight, test.fee), test.want)
		expectState(t, l, paying(spending(out(base, 2)), test.weight, test.fee), test.want)
		// What is paid matters only where nothing is missing and nothing wrong.
		expectState(t, l, paying(spending(api.In{ID: 5}), test.weight, test.fee), api.Lost, 5)
		expectState(t, holding(t, base, spending(out(base, 2))), paying(spending(out(base, 2)), test.weight, test.fee), api.Wicked)
	}
}

// TestMissing has the missing IDs: each once, in the order of the Ins.
func TestMissing(t *testing.T) {
	base, other := free(16, 100, 10), free(15, 100, 10)
	l := holding(t, base, other)
	b, o := idOf(base), idOf(other)
	tests := []struct {
		ins  []api.In
		want []uint64
	}{
		{[]api.In{{ID: 5}}, []uint64{5}},
		{[]api.In{{ID: 0}}, []uint64{0}},
		{[]api.In{{ID: math.MaxUint64, At: 15}}, []uint64{math.MaxUint64}},
		{[]api.In{{ID: 5}, {ID: 6}}, []uint64{5, 6}},
		{[]api.In{{ID: 6}, {ID: 5}}, []uint64{6, 5}},
		{[]api.In{{ID: 5, At: 1}, {ID: 5, At: 0}}, []uint64{5}},
		{[]api.In{{ID: 6}, {ID: 5}, {ID: 6, At: 1}}, []uint64{6, 5}},
		{[]api.In{{ID: 5, At: 3}, {ID: 9}, {ID: 5, At: 2}, {ID: 9, At: 4}, {ID: 1}, {ID: 5, At: 1}}, []uint64{5, 9, 1}},
		{[]api.In{{ID: b}, {ID: 5}}, []uint64{5}},
		{[]api.In{{ID: 5}, {ID: b}}, []uint64{5}},
		{[]api.In{{ID: b}, {ID: 9}, {ID: o}, {ID: 5}, {ID: b, At: 1}, {ID: 9, At: 7}}, []uint64{9, 5}},
		{[]api.In{{ID: b + 1}, {ID: b}, {ID: b - 1}}, []uint64{b + 1, b - 1}},
		{[]api.In{{ID: 8}, {ID: 7}, {ID: 6}, {ID: 5}, {ID: 4}, {ID: 3}, {ID: 2}, {ID: 1}}, []uint64{8, 7, 6, 5, 4, 3, 2, 1}},
		{[]api.In{{ID: 4}, {ID: 4, At: 1}, {ID: 4, At: 2}, {ID: 4, At: 3}, {ID: 4, At: 4}, {ID: 4, At: 5}, {ID: 4, At: 6}, {ID: 4, At: 7}}, []uint64{4}},
	}
	for _, test := range tests {
		expectState(t, l, spending(test.ins...), api.Lost, test.want...)
		expectState(t, l, paying(spending(test.ins...), 1000, 0), api.Lost, test.want...)
	}
	// Where nothing is contained, the IDs of both are missing too.
	expectState(t, New(), spending(api.In{ID: o}, api.In{ID: b}, api.In{ID: o, At: 3}), api.Lost, o, b)
}

// TestMissingBeforeWicked has transactions with a missing ID and something wrong: at any place, they are Lost.
func TestMissingBeforeWicked(t *testing.T) {
	base := free(2, 100, 10)
	l := holding(t, base, spending(out(base, 0)))
	spent, beyond, right, lost := out(base, 0), out(base, 2), out(base, 1), api.In{ID: 5}
	for _, wrong := range [][]api.In{{spent}, {beyond}, {spent, beyond}, {right, spent}, {beyond, right}} {
		expectState(t, l, spending(wrong...), api.Wicked)
		for i := range len(wrong) + 1 {
			ins := slices.Insert(slices.Clone(wrong), i, lost)
			expectState(t, l, spending(ins...), api.Lost, 5)
			expectState(t, l, paying(spending(ins...), 10, 0), api.Lost, 5)
			acceptFails(t, l, spending(ins...), api.ErrState)
		}
	}
}

// TestAt has outputs up to the last one of a transaction, and beyond.
func TestAt(t *testing.T) {
	for outs := 1; outs <= 16; outs++ {
		base, other := free(outs, 100, 10), free(16, 200, 20)
		l := holding(t, base, other)
		for at := range 16 {
			want := api.Good
			if at >= outs {
				want = api.Wicked
			}
			expectState(t, l, spending(out(base, at)), want)
			expectState(t, l, spending(out(base, at), out(other, 15)), want)
			expectState(t, l, spending(out(other, 15), out(base, at)), want)
			if want == api.Wicked {
				expectState(t, l, paying(spending(out(base, at)), 10, 0), want)
				acceptFails(t, l, spending(out(base, at)), api.ErrState)
			}
		}
	}
}

// eightIns returns a ledger with a transaction of eight Ins, those Ins, and others that are not spent.
func eightIns(t *testing.T) (l *Ledger, spent, unspent []api.In) {
	t.Helper()
	l = New()
	for i := range 4 {
		base := free(4, 100, 10+i)
		accept(t, l, base)
		spent = append(spent, out(base, 3), out(base, 0))
		unspent = append(unspent, out(base, 1), out(base, 2))
	}
	accept(t, l, spending(spent...))
	return l, spent, unspent
}

// TestSpent has Ins of a contained transaction: its first, its last and several ones, at each place of another one.
func TestSpent(t *testing.T) {
	l, spent, unspent := eightIns(t)
	expectState(t, l, spending(unspent...), api.Good)
	for _, in := range unspent {
		// The same ID with another index is not the same In, nor is the same index with another ID.
		expectState(t, l, spending(in), api.Good)
	}
	for i, in := range spent {
		expectState(t, l, spending(in), api.Wicked)
		expectState(t, l, paying(spending(in), 10, 0), api.Wicked)
		expectState(t, l, spending(in, spent[(i+1)%8]), api.Wicked)
		for place := range 8 {
			ins := slices.Clone(unspent)
			ins[place] = in
			expectState(t, l, spending(ins...), api.Wicked)
			acceptFails(t, l, spending(ins...), api.ErrState)
		}
	}
	expectState(t, l, paying(spending(spent...), 20, 2), api.Wicked)
	accept(t, l, spending(unspent...))
	for _, in := range slices.Concat(spent, unspent) {
		expectState(t, l, spending(in), api.Wicked)
	}
}

// TestSpentByEach has several contained transactions, of which each spends something.
func TestSpentByEach(t *testing.T) {
	base := free(16, 100, 10)
	l := holding(t, base)
	for i := range 16 {
		at := (i * 5) % 16
		d := paying(spending(out(base, at)), 10, i%3)
		accept(t, l, d)
		for j := range 16 {
			want := api.Good
			if j <= i {
				want = api.Wicked
			}
			expectState(t, l, paying(spending(out(base, (j*5)%16)), 20, 7), want)
		}
	}
}

// TestJudgeContained judges contained transactions: those with Ins find their own Ins spent, the others are as before.
func TestJudgeContained(t *testing.T) {
	good, poor := free(3, 100, 10), free(3, 100, 9)
	child, poorChild := spending(out(good, 1)), paying(spending(out(good, 2), out(poor, 0)), 10, 0)
	l := holding(t, good, poor, child, poorChild)
	for range 2 {
		expectState(t, l, good, api.Good)
		expectState(t, l, poor, api.Poor)
		expectState(t, l, child, api.Wicked)
		expectState(t, l, poorChild, api.Wicked)
	}
	expectAll(t, l, good, poor, child, poorChild)
}

// TestJudgeOfChain has transactions that become Good only one after the other.
func TestJudgeOfChain(t *testing.T) {
	l := New()
	chain := []api.Deed{free(1, 10, 1)}
	for len(chain) < 20 {
		chain = append(chain, spending(out(chain[len(chain)-1], 0)))
	}
	for i, d := range chain {
		for j, later := range chain[i+1:] {
			expectState(t, l, later, api.Lost, idOf(chain[i+j]))
			acceptFails(t, l, later, api.ErrState)
		}
		expectState(t, l, d, api.Good)
		accept(t, l, d)
		expectAll(t, l, chain[:i+1]...)
	}
}
