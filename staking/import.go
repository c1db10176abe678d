package staking

import "staking/api"

const (
	mostEntries = api.MaxAccounts * api.MaxValidators * api.MaxEntries
	mostPending = api.MaxSupply * partsOfToken // all tokens, due to one share
)

// readEngine holds each number to its own bounds alone: whether they go together is left to consistent.
func readEngine(text string) (*Engine, bool) {
	r := &reader{text: text}
	g := r.nextGenesis()
	x, e := New(g)
	if e != api.OK {
		return nil, false
	}
	x.height = r.next(api.MaxHeight)
	x.fees = r.next(api.MaxSupply)
	x.pool = r.next(api.MaxSupply)
	x.readValidators(r)
	x.readDelegations(r)
	x.readEntries(r)
	if r.bad {
		return nil, false
	}
	return x, true
}

// nextGenesis leaves what a beginning must be to New.
func (r *reader) nextGenesis() api.Genesis {
	var g api.Genesis
	g.Balances = r.nextList(api.MaxAccounts, api.MaxSupply)
	g.Owners = r.nextList(api.MaxValidators, api.MaxAccounts)
	g.Rates = r.nextList(api.MaxValidators, hundredPercent)
	g.Top = r.next(api.MaxValidators)
	g.Mature = r.next(api.MaxMature)
	g.Fee = r.next(api.MaxFee)
	return g
}

func (x *Engine) readValidators(r *reader) {
	for val := range x.validators {
		x.validators[val].Tokens = r.next(api.MaxSupply)
		x.validators[val].Commission = r.next(api.MaxSupply)
		x.validators[val].Outstanding = r.next(api.MaxSupply)
		stands := r.next(standsJailed)
		x.validators[val].Jailed = stands == standsJailed
		x.validators[val].InSet = stands == standsInSet
	}
}

func (x *Engine) readDelegations(r *reader) {
	for who := range x.balances {
		for val := range x.validators {
			shares := r.next(api.MaxShares)
			x.shares[who][val] = shares
			x.validators[val].Shares += shares
			if shares > 0 {
				pending := r.next(mostPending)
				// perShare counts from the import on, so a payment that lies before it is below 0.
				x.paidUpTo[who][val] = x.perShare[val] - pending
			}
		}
	}
}

func (x *Engine) readEntries(r *reader) {
	count := r.next(mostEntries)
	for i := 0; i < count; i++ {
		var e api.Entry
		e.Who = r.next(len(x.balances) - 1)
		e.Val = r.next(len(x.validators) - 1)
		e.Made = r.next(x.height)
		e.Amount = r.next(api.MaxSupply)
		x.entries = append(x.entries, e)
	}
}
