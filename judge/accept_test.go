package judge

import (
	"testing"

	"charterhouse/api"
)

// TestAccept accepts Good and Poor transactions, with and without Ins.
func TestAccept(t *testing.T) {
	good, poor := free(3, 100, 10), free(3, 100, 9)
	goodChild := paying(spending(out(good, 2), out(poor, 0)), 1, 1000)
	poorChild := paying(spending(out(poor, 2), out(good, 0), out(goodChild, 1)), 1000, 0)
	l := New()
	steps := []struct {
		d     api.Deed
		state int
	}{{poor, api.Poor}, {good, api.Good}, {goodChild, api.Good}, {poorChild, api.Poor}}
	var all []api.Deed
	for _, step := range steps {
		expectState(t, l, step.d, step.state)
		expectGone(t, l, idOf(step.d))
		accept(t, l, step.d)
		all = append(all, step.d)
		expectAll(t, l, all...)
	}
}

// TestAcceptEnds has transactions with the ends of all ranges.
func TestAcceptEnds(t *testing.T) {
	base := free(16, 1000, 1000)
	eight := api.Deed{Outs: 16, Weight: 1000, Fee: 1000}
	for i := range 8 {
		eight.Ins = append(eight.Ins, out(base, 15-2*i))
	}
	least := api.Deed{Ins: []api.In{}, Outs: 1, Weight: 1}
	l := holding(t, base, eight, least)
	expectAll(t, l, base, eight, least)
	// IDs that were computed outside of the program.
	l = holding(t, free(2, 10, 1), free(1, 100, 10), base)
	expectDeed(t, l, 303629951263547664, free(2, 10, 1))
	expectDeed(t, l, 13233741008102852274, free(1, 100, 10))
	expectDeed(t, l, 8199875210632662019, base)
	accept(t, l, api.Deed{Ins: []api.In{{ID: 303629951263547664, At: 1}}, Outs: 1, Weight: 10, Fee: 1})
	if all := l.All(); len(all) != 4 || all[3] != 3553749337352903226 {
		t.Errorf("All() = %d", all)
	}
}

// TestAcceptErrors has each error of deed.Check, where the IDs are missing, contained or spent.
func TestAcceptErrors(t *testing.T) {
	base := free(16, 100, 10)
	l := holding(t, base, spending(out(base, 0)))
	for _, id := range []uint64{9, idOf(base)} {
		for want, deeds := range wrongDeeds(id) {
			for _, d := range deeds {
				acceptFails(t, New(), d, want)
				acceptFails(t, l, d, want)
			}
		}
	}
	acceptFails(t, New(), api.Deed{}, api.ErrArg)
	// A contained transaction with another field that is wrong.
	acceptFails(t, l, paying(base, 0, 10), api.ErrArg)
	acceptFails(t, l, paying(base, 100, 1001), api.ErrArg)
	expectAll(t, l, base, spending(out(base, 0)))
}

// TestAcceptTwice accepts transactions again: those with Ins are Wicked by now, which comes later.
func TestAcceptTwice(t *testing.T) {
	good, poor := free(3, 100, 10), free(3, 100, 9)
	child := spending(out(good, 1), out(poor, 0))
	all := []api.Deed{good, poor, child}
	l := New()
	for i, d := range all {
		accept(t, l, d)
		for range 2 {
			for _, again := range all[:i+1] {
				acceptFails(t, l, again, api.ErrTwice)
			}
		}
		expectAll(t, l, all[:i+1]...)
	}
	// Empty Ins are no Ins.
	acceptFails(t, l, api.Deed{Ins: []api.In{}, Outs: 3, Weight: 100, Fee: 10}, api.ErrTwice)
	// The same Ins in another order, or with another number, make another transaction.
	acceptFails(t, l, spending(out(poor, 0), out(good, 1)), api.ErrState)
	acceptFails(t, l, paying(child, 20, 2), api.ErrState)
	accept(t, l, free(3, 100, 11), free(3, 99, 10), free(2, 100, 10))
}

// TestAcceptState has Lost and Wicked transactions, which may be accepted when they are not so any more.
func TestAcceptState(t *testing.T) {
	base := free(2, 100, 10)
	child := spending(out(base, 1))
	grandchild := paying(spending(out(child, 0), out(base, 0)), 1000, 0)
	l := New()
	for _, d := range []api.Deed{child, paying(child, 1000, 0), grandchild, spending(api.In{ID: 5})} {
		acceptFails(t, l, d, api.ErrState)
	}
	expectAll(t, l)
	accept(t, l, base)
	for _, d := range []api.Deed{
		grandchild,
		spending(out(base, 2)),
		spending(out(base, 0), out(base, 15)),
		paying(spending(out(base, 2)), 1000, 0),
		spending(out(base, 0), api.In{ID: 5}),
	} {
		acceptFails(t, l, d, api.ErrState)
	}
	expectAll(t, l, base)
	accept(t, l, child)
	acceptFails(t, l, paying(child, 11, 2), api.ErrState)
	accept(t, l, grandchild)
	acceptFails(t, l, spending(out(base, 0)), api.ErrState)
	expectAll(t, l, base, child, grandchild)
}

// TestRefusedSpendsNothing accepts what refused transactions would have spent.
func TestRefusedSpendsNothing(t *testing.T) {
	base := free(4, 100, 10)
	l := holding(t, base)
	refused := []api.Deed{
		spending(out(base, 0), out(base, 1), api.In{ID: 5}),
		spending(out(base, 2), out(base, 4)),
		spending(api.In{ID: 5}, out(base, 3)),
	}
	for _, d := range refused {
		acceptFails(t, l, d, api.ErrState)
		acceptFails(t, l, paying(d, 0, 0), api.ErrArg)
	}
	for at := range 4 {
		accept(t, l, spending(out(base, at)))
	}
	for _, d := range refused {
		acceptFails(t, l, d, api.ErrState)
	}
}

// TestOrder accepts transactions in orders that are not those of their IDs.
func TestOrder(t *testing.T) {
	for step := 1; step < 40; step++ {
		l := New()
		var all []api.Deed
		for i := range 41 {
			all = append(all, free(1+(i*step)%41%16, 1+(i*step)%41, i%2))
			accept(t, l, all[i])
			acceptFails(t, l, all[i/2], api.ErrTwice)
		}
		expectAll(t, l, all...)
	}
}

// The transactions of twins have the same ID, as computed outside of the program.
const twinID = 303631050775175875

func twins() (first, second, third api.Deed) {
	first = free(2, 10, 0)
	second = api.Deed{Ins: []api.In{{ID: 218720479572395786}, {ID: 435161435048247814}}, Outs: 5, Weight: 621, Fee: 18}
	third = api.Deed{Ins: []api.In{{ID: 145576494814215743}, {ID: 1985726791355916}}, Outs: 1, Weight: 70, Fee: 183}
	return first, second, third
}

// TestSameID has different transactions with the same ID: where one of them is contained, each of them is.
func TestSameID(t *testing.T) {
	first, second, third := twins()
	for _, d := range []api.Deed{first, second, third} {
		if idOf(d) != twinID {
			t.Fatalf("the ID of %v is %d", d, idOf(d))
		}
	}
	l := New()
	acceptFails(t, l, second, api.ErrState)
	accept(t, l, first)
	for _, d := range []api.Deed{first, second, third} {
		acceptFails(t, l, d, api.ErrTwice)
	}
	expectAll(t, l, first)
	// Judge goes by what the transaction says: its Ins are missing.
	expectState(t, l, second, api.Lost, 218720479572395786, 435161435048247814)
	expectPair(t, l, third, spending(out(first, 0)), api.Lost)
	// The Outs are those of the transaction that was accepted.
	expectState(t, l, spending(api.In{ID: twinID, At: 1}), api.Good)
	expectState(t, l, spending(api.In{ID: twinID, At: 2}), api.Wicked)
}

// TestPairOfSameID has a parent with the ID of a contained transaction that has fewer Outs: it is contained with those.
func TestPairOfSameID(t *testing.T) {
	first, second, _ := twins()
	l := holding(t, first)
	// No transaction with these IDs is known, so they are put in directly.
	for _, in := range second.Ins {
		l.add(in.ID, free(1, 10, 1))
	}
	expectState(t, l, second, api.Poor)
	for at, want := range []int{api.Good, api.Good, api.Wicked, api.Wicked, api.Wicked} {
		expectPair(t, l, second, paying(spending(api.In{ID: twinID, At: at}), 10, 1000), want)
	}
	// The Ins that it names are spent nevertheless.
	expectPair(t, l, second, paying(spending(out(first, 0), second.Ins[1]), 10, 1000), api.Wicked)
	expectPair(t, l, first, paying(spending(out(first, 0), second.Ins[1]), 10, 1000), api.Good)
}

// TestManyAccepted has a ledger so large that a search through all of it for each call would take very long.
func TestManyAccepted(t *testing.T) {
	l := New()
	var ids []uint64
	last := free(8, 10, 1)
	for range 50000 {
		if e := l.Accept(last); e != api.OK {
			t.Fatalf("Accept(%v) = %d", last, e)
		}
		id := idOf(last)
		ids = append(ids, id)
		last = api.Deed{Outs: 8, Weight: 10, Fee: 1}
		for at := range 8 {
			last.Ins = append(last.Ins, api.In{ID: id, At: at})
		}
	}
	all := l.All()
	for i, id := range ids {
		if all[i] != id || !l.Has(id) {
			t.Fatalf("ID %d of All is %d, want %d, Has: %v", i, all[i], id, l.Has(id))
		}
		want := api.Wicked
		if i == len(ids)-1 {
			want = api.Good
		}
		if state, _, _ := l.Judge(spending(api.In{ID: id, At: i % 8})); state != want {
			t.Fatalf("the output %d of transaction %d has state %d", i%8, i, state)
		}
	}
}
