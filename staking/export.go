package staking

import "staking/api"

// The text stays far below MaxExport: there are at most 120 entries and 30 delegations, and what a share is due is bounded by what is outstanding, not by how many blocks there were.

// Where a validator stands is one number, so that no text can say that it is jailed and in the set.
const (
	standsOutside = 0
	standsInSet   = 1
	standsJailed  = 2
)

// writeGenesis writes the balances of now, not those of the beginning, which nothing hangs on any more.
func (x *Engine) writeGenesis(w *writer) {
	w.add(len(x.balances))
	for _, b := range x.balances {
		w.add(b)
	}
	w.add(len(x.validators))
	for _, v := range x.validators {
		w.add(v.Owner)
	}
	w.add(len(x.validators))
	for _, v := range x.validators {
		w.add(v.Rate)
	}
	w.add(x.top)
	w.add(x.mature)
	w.add(x.fee)
}

func (x *Engine) writeChain(w *writer) {
	w.add(x.height)
	w.add(x.fees)
	w.add(x.pool)
}

// writeValidators leaves out their shares, which are those of the delegations together.
func (x *Engine) writeValidators(w *writer) {
	for _, v := range x.validators {
		w.add(v.Tokens)
		w.add(v.Commission)
		w.add(v.Outstanding)
		w.add(standing(v))
	}
}

func standing(v api.Validator) int {
	if v.Jailed {
		return standsJailed
	}
	if v.InSet {
		return standsInSet
	}
	return standsOutside
}

// writeDelegations leaves out what is due where nobody has shares: it is never asked for.
func (x *Engine) writeDelegations(w *writer) {
	for who := range x.balances {
		for val := range x.validators {
			w.add(x.shares[who][val])
			if x.shares[who][val] > 0 {
				w.add(x.pending(who, val))
			}
		}
	}
}

func (x *Engine) writeEntries(w *writer) {
	w.add(len(x.entries))
	for _, e := range x.entries {
		w.add(e.Who)
		w.add(e.Val)
		w.add(e.Made)
		w.add(e.Amount)
	}
}
