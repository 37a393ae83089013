package node

import (
	"charterhouse/api"
	"charterhouse/deed"
	"charterhouse/msg"
)

// Send processes a message of a peer, and returns the answers to it.
func (n *Node) Send(peer int, s string) ([]api.Out, api.Errno) {
	if e := n.checkThere(peer); e != api.OK {
		return nil, e
	}
	m, e := msg.Decode(s)
	if e != api.OK {
		return nil, e
	}
	switch m.Kind {
	case api.Announce:
		n.announce(peer, m.IDs)
	case api.Missing:
		for _, id := range m.IDs {
			n.tracker.Answer(peer, id)
		}
	case api.Fetch:
		return n.fetch(peer, m.IDs), api.OK
	case api.Bring:
		d, e := deed.Decode(m.Body)
		if e != api.OK {
			return nil, e
		}
		n.bring(peer, d)
	}
	return nil, api.OK
}

// announce tells the tracker that a peer has transactions of which the node does not know what they are.
func (n *Node) announce(peer int, ids []uint64) {
	at := n.now
	if !n.peers[peer].preferred {
		at = n.later(api.Delay)
	}
	for _, id := range ids {
		if !n.knows(id) {
			n.tracker.Announce(peer, id, at, n.peers[peer].preferred)
		}
	}
}

// knows reports whether a transaction need not be requested when it is announced.
func (n *Node) knows(id uint64) bool {
	return n.ledger.Has(id) || n.pool.Has(id) || n.wicked.Has(id) || n.poor.Has(id)
}

// fetch returns the messages that bring a peer what the ledger contains, and one about the other IDs.
func (n *Node) fetch(peer int, ids []uint64) []api.Out {
	var outs []api.Out
	var others []uint64
	for _, id := range ids {
		d, e := n.ledger.Deed(id)
		if e != api.OK {
			others = append(others, id)
			continue
		}
		body, _ := deed.Encode(d)
		outs = append(outs, message(peer, api.Msg{Kind: api.Bring, Body: body})...)
	}
	return append(outs, message(peer, api.Msg{Kind: api.Missing, IDs: others})...)
}
