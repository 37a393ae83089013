package node

import (
	"charterhouse/api"
	"charterhouse/deed"
)

// examination is the state of an examination, of a transaction that was brought and of what follows from it.
type examination struct {
	*Node
	// The transactions to be examined. One may occur several times, at the places of several parents.
	queue []uint64
}

// bring processes a transaction that a peer brought.
func (n *Node) bring(peer int, d api.Deed) {
	id, _ := deed.ID(d)
	n.tracker.Answer(peer, id)
	if n.ledger.Has(id) || n.wicked.Has(id) {
		return
	}
	x := examination{Node: n}
	if missing := x.examine(id, d); len(missing) > 0 {
		n.adopt(peer, id, d, missing)
	}
	x.follow()
}

// adopt puts a Lost transaction into the pool, and has the peer that brought it asked for what is missing.
func (n *Node) adopt(peer int, id uint64, d api.Deed, missing []uint64) {
	n.tracker.Forget(id)
	n.pool.Add(peer, id, d)
	// It may have been there before, and it may be gone at once.
	if !n.pool.Has(id) {
		return
	}
	for _, parent := range missing {
		if !n.pool.Has(parent) && !n.wicked.Has(parent) {
			n.tracker.Announce(peer, parent, n.now, n.peers[peer].preferred)
		}
	}
}

// follow examines the transactions of the queue that the pool still contains.
func (x *examination) follow() {
	for len(x.queue) > 0 {
		id := x.queue[0]
		x.queue = x.queue[1:]
		if d, e := x.pool.Deed(id); e == api.OK {
			// One that is Lost stays as it is.
			x.examine(id, d)
		}
	}
}

// examine does what the state of a transaction asks for; if it is Lost, it only returns the missing IDs.
func (x *examination) examine(id uint64, d api.Deed) []uint64 {
	state, missing, _ := x.ledger.Judge(d)
	switch state {
	case api.Good:
		x.accept(id, d)
		x.enqueueChildren(id)
	case api.Poor:
		x.poor.Put(id)
		x.settle(id)
		x.seekPayer(id, d)
	case api.Wicked:
		x.wicked.Put(id)
		x.settle(id)
	}
	return missing
}

// seekPayer accepts a Poor transaction together with the first child that pays for both, if there is one.
func (x *examination) seekPayer(id uint64, d api.Deed) {
	for _, child := range x.pool.Children(id) {
		payer, _ := x.pool.Deed(child)
		if state, e := x.ledger.Pair(d, payer); e == api.OK && state == api.Good {
			x.accept(id, d)
			x.accept(child, payer)
			x.enqueueChildren(id)
			x.enqueueChildren(child)
			return
		}
	}
}

// enqueueChildren has the children of an accepted transaction examined later.
func (x *examination) enqueueChildren(id uint64) {
	x.queue = append(x.queue, x.pool.Children(id)...)
}

// accept puts a transaction into the ledger.
func (x *examination) accept(id uint64, d api.Deed) {
	x.ledger.Accept(d)
	x.settle(id)
}

// settle forgets a transaction of which it is known what it is: it is not requested any more, nor kept as an orphan.
func (x *examination) settle(id uint64) {
	x.tracker.Forget(id)
	x.pool.Remove(id)
}
