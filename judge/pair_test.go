package judge

import (
	"testing"

	"charterhouse/api"
)

// expectPair checks Pair, and that it changes nothing.
func expectPair(t *testing.T, l *Ledger, parent, child api.Deed, want int) {
	t.Helper()
	before := look(l, parent, child)
	if got, e := l.Pair(parent, child); got != want || e != api.OK {
		t.Errorf("Pair(%v, %v) = %d, %d, want %d", parent, child, got, e, want)
	}
	expectSame(t, before, look(l, parent, child))
}

// pairFails checks an error of Pair, and that it changes nothing.
func pairFails(t *testing.T, l *Ledger, parent, child api.Deed, want api.Errno) {
	t.Helper()
	before := look(l, parent, child)
	if state, e := l.Pair(parent, child); state != 0 || e != want {
		t.Errorf("Pair(%v, %v) = %d, %d, want error %d", parent, child, state, e, want)
	}
	expectSame(t, before, look(l, parent, child))
}

// family is a ledger, transactions in it, and a parent of each state; each parent has three Outs.
type family struct {
	l                        *Ledger
	base, spender            api.Deed
	good, poor, lost, wicked api.Deed
}

// newFamily returns a family: spender spends the output 0 of base, poor the output 1.
func newFamily(t *testing.T) family {
	t.Helper()
	base := free(4, 100, 10)
	spender := spending(out(base, 0))
	three := func(weight, fee int, ins ...api.In) api.Deed {
		return api.Deed{Ins: ins, Outs: 3, Weight: weight, Fee: fee}
	}
	f := family{
		l: holding(t, base, spender), base: base, spender: spender,
		good:   three(100, 10, out(base, 1)),
		poor:   three(100, 2, out(base, 1)),
		lost:   three(100, 10, out(base, 1), api.In{ID: 5}),
		wicked: three(100, 10, out(base, 1), out(base, 0)),
	}
	expectState(t, f.l, f.good, api.Good)
	expectState(t, f.l, f.poor, api.Poor)
	expectState(t, f.l, f.lost, api.Lost, 5)
	expectState(t, f.l, f.wicked, api.Wicked)
	return f
}

// TestPairStates has a parent in each state and a child that would be in each state.
func TestPairStates(t *testing.T) {
	f := newFamily(t)
	parents := map[int]api.Deed{api.Good: f.good, api.Lost: f.lost, api.Wicked: f.wicked}
	for want, parent := range parents {
		first := out(parent, 0)
		children := []api.Deed{
			spending(first, api.In{ID: 6}),
			spending(api.In{ID: 6}, first),
			spending(first, out(f.base, 0)),
			spending(out(parent, 3)),
			spending(first, parent.Ins[0]),
			paying(spending(first), 1000, 0),
			spending(first),
			paying(spending(first), 1, 1000),
		}
		for _, child := range children {
			expectPair(t, f.l, parent, child, want)
		}
	}
	// Only for a Poor parent the child matters.
	first := out(f.poor, 0)
	expectPair(t, f.l, f.poor, paying(spending(first, api.In{ID: 6}), 10, 100), api.Lost)
	expectPair(t, f.l, f.poor, paying(spending(first, out(f.base, 0)), 10, 100), api.Wicked)
	expectPair(t, f.l, f.poor, paying(spending(first), 10, 0), api.Poor)
	expectPair(t, f.l, f.poor, spending(first), api.Poor)
	expectPair(t, f.l, f.poor, paying(spending(first), 10, 100), api.Good)
}

// TestPairErrors has the errors in their order, with a parent in each state and one that is contained.
func TestPairErrors(t *testing.T) {
	f := newFamily(t)
	for _, parent := range []api.Deed{f.good, f.poor, f.lost, f.wicked, f.base, f.spender, free(1, 100, 0)} {
		id := idOf(parent)
		for want, deeds := range wrongDeeds(id) {
			for _, child := range deeds {
				pairFails(t, f.l, parent, child, want)
				// The error of the parent comes first.
				pairFails(t, f.l, paying(parent, 0, 0), child, api.ErrArg)
				pairFails(t, f.l, api.Deed{Ins: make([]api.In, 2)}, child, api.ErrTwice)
				pairFails(t, f.l, api.Deed{Ins: make([]api.In, 9)}, child, api.ErrLarge)
			}
		}
		// The error of the child comes before ErrForm.
		for _, wrong := range []uint64{9, idOf(f.base), id + 1} {
			for want, deeds := range wrongDeeds(wrong) {
				pairFails(t, f.l, parent, deeds[0], want)
			}
		}
		for want, deeds := range wrongDeeds(idOf(f.base)) {
			for _, wrong := range deeds {
				pairFails(t, f.l, wrong, spending(out(parent, 0)), want)
				pairFails(t, f.l, wrong, parent, want)
			}
		}
	}
}

// TestPairOfStrangers has children without an In of the parent, whatever else they have.
func TestPairOfStrangers(t *testing.T) {
	f := newFamily(t)
	for _, parent := range []api.Deed{f.good, f.poor, f.lost, f.wicked, f.base, f.spender} {
		id := idOf(parent)
		strangers := []api.Deed{
			free(1, 10, 1),
			{Ins: []api.In{}, Outs: 1, Weight: 10, Fee: 0},
			spending(api.In{ID: 6}),
			spending(api.In{ID: id + 1}, api.In{ID: id - 1}),
			spending(api.In{ID: id ^ 1<<63}),
			spending(out(free(7, 7, 7), 0)),
		}
		for _, child := range strangers {
			pairFails(t, f.l, parent, child, api.ErrForm)
			pairFails(t, New(), parent, child, api.ErrForm)
		}
		pairFails(t, f.l, parent, parent, api.ErrForm)
	}
	// An In that both have does not make one the child of the other, nor does the other direction.
	pairFails(t, f.l, f.poor, spending(out(f.base, 1)), api.ErrForm)
	pairFails(t, f.l, f.poor, f.base, api.ErrForm)
	pairFails(t, f.l, spending(out(f.poor, 0)), f.poor, api.ErrForm)
}

// TestPairPlaceOfIn has the In of the parent at each place of eight.
func TestPairPlaceOfIn(t *testing.T) {
	parent, base := free(1, 100, 0), free(16, 100, 10)
	l := holding(t, base)
	for place := range 8 {
		var ins []api.In
		for i := range 8 {
			ins = append(ins, out(base, i))
		}
		ins[place] = out(parent, 0)
		expectPair(t, l, parent, paying(spending(ins...), 10, 11), api.Good)
		expectPair(t, l, parent, paying(spending(ins...), 10, 10), api.Poor)
		ins[place].At = 1
		expectPair(t, l, parent, paying(spending(ins...), 10, 11), api.Wicked)
		ins[place] = out(base, 9)
		pairFails(t, l, parent, paying(spending(ins...), 10, 11), api.ErrForm)
	}
}

// TestPairAt has children that spend outputs of the parent up to its last one, and beyond.
func TestPairAt(t *testing.T) {
	for outs := 1; outs <= 16; outs++ {
		parent := free(outs, 100, 0)
		for at := range 16 {
			rich, poor := api.Good, api.Poor
			if at >= outs {
				rich, poor = api.Wicked, api.Wicked
			}
			child := paying(spending(out(parent, at)), 10, 100)
			expectPair(t, New(), parent, child, rich)
			expectPair(t, New(), parent, paying(child, 10, 1), poor)
			// The same where the parent is contained.
			expectPair(t, holding(t, parent), parent, child, rich)
			if at > 0 && outs > 1 {
				expectPair(t, New(), parent, paying(spending(out(parent, 0), out(parent, at)), 10, 100), rich)
				expectPair(t, New(), parent, paying(spending(out(parent, at), out(parent, 0)), 10, 100), rich)
			}
		}
	}
}

// TestPairSpent has children with Ins of the parent and of contained transactions.
func TestPairSpent(t *testing.T) {
	base, other := free(4, 100, 10), free(4, 200, 20)
	spender := spending(out(base, 0), out(other, 3))
	l := holding(t, base, other, spender)
	parent := paying(spending(out(base, 1), out(other, 0), out(base, 2)), 100, 0)
	expectState(t, l, parent, api.Poor)
	tests := []struct {
		in   api.In
		want int
	}{
		{out(base, 1), api.Wicked}, {out(other, 0), api.Wicked}, {out(base, 2), api.Wicked}, // Ins of the parent
		{out(base, 0), api.Wicked}, {out(other, 3), api.Wicked}, // Ins of spender
		{out(base, 4), api.Wicked}, {out(other, 15), api.Wicked}, {out(spender, 2), api.Wicked}, // no such output
		{out(base, 3), api.Good}, {out(other, 1), api.Good}, {out(other, 2), api.Good}, {out(spender, 0), api.Good},
		{out(parent, 1), api.Good},
		{out(parent, 2), api.Wicked},
		{api.In{ID: 6}, api.Lost}, {api.In{ID: 6, At: 15}, api.Lost},
	}
	for _, test := range tests {
		for _, ins := range [][]api.In{{out(parent, 0), test.in}, {test.in, out(parent, 0)}} {
			expectPair(t, l, parent, paying(spending(ins...), 10, 100), test.want)
			poor := test.want
			if poor == api.Good {
				poor = api.Poor
			}
			expectPair(t, l, parent, paying(spending(ins...), 10, 0), poor)
			// A missing ID comes before all that is wrong.
			for _, lost := range [][]api.In{append(ins[:2:2], api.In{ID: 7}), append([]api.In{{ID: 7}}, ins...)} {
				expectPair(t, l, parent, paying(spending(lost...), 10, 100), api.Lost)
			}
		}
	}
}

// TestPairIsNotRemembered has children that would be Wicked or Good together with the parent, alone and with another one.
func TestPairIsNotRemembered(t *testing.T) {
	base := free(4, 100, 10)
	l := holding(t, base)
	parent := paying(spending(out(base, 1)), 100, 0)
	child := paying(spending(out(parent, 0)), 10, 100)
	expectPair(t, l, parent, child, api.Good)
	expectState(t, l, parent, api.Poor)
	expectState(t, l, child, api.Lost, idOf(parent))
	expectState(t, l, spending(out(base, 1)), api.Good)
	acceptFails(t, l, child, api.ErrState)
	expectGone(t, l, idOf(parent), idOf(child))
	expectAll(t, l, base)
	// The Ins of the parent are not spent for the next one.
	other := paying(spending(out(base, 2)), 100, 0)
	expectPair(t, l, other, paying(spending(out(other, 0), out(base, 1)), 10, 100), api.Good)
	expectPair(t, l, other, paying(spending(out(other, 0), out(parent, 0)), 10, 100), api.Lost)
}

// TestPairContained has parents that are contained: those with Ins are Wicked, the others as before.
func TestPairContained(t *testing.T) {
	good, poor := free(3, 100, 10), free(3, 100, 0)
	child := paying(spending(out(poor, 0)), 10, 100)
	poorChild := paying(spending(out(good, 0)), 100, 0)
	l := holding(t, good, poor, child, poorChild)
	tests := []struct {
		parent, child api.Deed
		want          int
	}{
		{good, spending(out(good, 1)), api.Good},
		{good, spending(out(good, 0)), api.Good},
		{good, spending(out(good, 3), api.In{ID: 6}), api.Good},
		{poor, paying(spending(out(poor, 1)), 10, 11), api.Good},
		{poor, paying(spending(out(poor, 1)), 10, 10), api.Poor},
		{poor, paying(spending(out(poor, 3)), 10, 11), api.Wicked},
		{poor, paying(spending(out(poor, 1), api.In{ID: 6}), 10, 11), api.Lost},
		// An output of the parent that is spent already.
		{poor, paying(spending(out(poor, 0)), 10, 11), api.Wicked},
		{poor, paying(spending(out(poor, 1), out(poor, 0)), 10, 11), api.Wicked},
		{poor, child, api.Wicked},
		{child, spending(out(child, 0)), api.Wicked},
		{child, spending(out(child, 0), api.In{ID: 6}), api.Wicked},
		{poorChild, paying(spending(out(poorChild, 0)), 10, 1000), api.Wicked},
	}
	for _, test := range tests {
		expectPair(t, l, test.parent, test.child, test.want)
	}
	expectAll(t, l, good, poor, child, poorChild)
}

// TestPairPayment has 10 times the sum of both Fees below, at and above the sum of both Weights.
func TestPairPayment(t *testing.T) {
	tests := []struct{ weight, fee, childWeight, childFee, want int }{
		{100, 0, 10, 10, api.Poor}, {100, 0, 10, 11, api.Good}, {100, 0, 10, 12, api.Good},
		{100, 0, 9, 11, api.Good}, {100, 0, 11, 11, api.Poor}, {101, 0, 10, 11, api.Poor}, {99, 0, 10, 11, api.Good},
		{101, 10, 10, 1, api.Poor}, {101, 10, 9, 1, api.Good}, {101, 10, 8, 1, api.Good}, // the child is Good
		{101, 10, 9, 0, api.Poor},
		{11, 1, 9, 1, api.Good}, {11, 1, 10, 1, api.Poor}, {11, 1, 18, 2, api.Good}, {11, 1, 19, 2, api.Good}, {11, 1, 20, 2, api.Poor},
		{1000, 99, 1000, 101, api.Good}, {1000, 99, 1000, 100, api.Poor}, {1000, 99, 999, 100, api.Poor}, {1000, 99, 990, 100, api.Good}, {1000, 99, 991, 100, api.Poor},
		{1000, 0, 1000, 200, api.Good}, {1000, 0, 1000, 199, api.Poor}, {1000, 0, 1000, 201, api.Good},
		{1000, 0, 1, 1000, api.Good}, {1000, 0, 1, 100, api.Poor}, {1000, 0, 1, 101, api.Good},
		{1, 0, 1, 0, api.Poor}, {1, 0, 1, 1, api.Good}, {1, 0, 9, 1, api.Good}, {1, 0, 10, 1, api.Poor},
	}
	base := free(16, 100, 10)
	for _, test := range tests {
		for _, parent := range []api.Deed{free(1, test.weight, test.fee), paying(spending(out(base, 3)), test.weight, test.fee)} {
			l := holding(t, base)
			expectState(t, l, parent, api.Poor)
			child := paying(spending(out(parent, 0)), test.childWeight, test.childFee)
			expectPair(t, l, parent, child, test.want)
			expectPair(t, l, parent, paying(spending(out(base, 2), out(parent, 0)), test.childWeight, test.childFee), test.want)
		}
	}
}

// TestPairPaymentOfMany compares with the sums, for parents of all fees that make them Poor.
func TestPairPaymentOfMany(t *testing.T) {
	l := New()
	for fee := range 100 {
		for _, weight := range []int{10*fee + 1, 10*fee + 7, 1000} {
			parent := free(2, weight, fee)
			for missing := -2; missing <= 2; missing++ {
				for _, childFee := range []int{1, 50, 99, 199} {
					childWeight := 10*(fee+childFee) - weight + missing
					if childWeight < 1 || childWeight > 1000 {
						continue
					}
					want := api.Good
					if missing > 0 {
						want = api.Poor
					}
					child := paying(spending(out(parent, 1)), childWeight, childFee)
					if got, e := l.Pair(parent, child); got != want || e != api.OK {
						t.Errorf("Pair(%v, %v) = %d, %d, want %d", parent, child, got, e, want)
					}
				}
			}
		}
	}
}

// TestPairOfEmpty has an empty ledger, where only parents without Ins are not Lost.
func TestPairOfEmpty(t *testing.T) {
	poor, good, lost := free(1, 100, 9), free(1, 100, 10), spending(api.In{ID: 5})
	expectPair(t, New(), poor, paying(spending(out(poor, 0)), 10, 2), api.Good)
	expectPair(t, New(), poor, paying(spending(out(poor, 0)), 10, 1), api.Poor)
	expectPair(t, New(), poor, spending(out(poor, 0), out(good, 0)), api.Lost)
	expectPair(t, New(), good, spending(out(poor, 0), out(good, 0)), api.Good)
	expectPair(t, New(), lost, spending(out(lost, 0)), api.Lost)
	expectPair(t, New(), paying(lost, 1000, 0), spending(out(paying(lost, 1000, 0), 0)), api.Lost)
}

// TestPairThenAccept accepts both of a Good pair, one after the other.
func TestPairThenAccept(t *testing.T) {
	f := newFamily(t)
	child := paying(spending(out(f.poor, 2), out(f.base, 3)), 10, 100)
	expectPair(t, f.l, f.poor, child, api.Good)
	acceptFails(t, f.l, child, api.ErrState)
	accept(t, f.l, f.poor, child)
	expectAll(t, f.l, f.base, f.spender, f.poor, child)
	expectPair(t, f.l, f.poor, child, api.Wicked)
	expectPair(t, f.l, f.poor, paying(spending(out(f.poor, 1)), 10, 100), api.Wicked)
}
