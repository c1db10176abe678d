package staking

import "staking/api"

// consistent tells what every call keeps true, of numbers that are within their own bounds: if it is true of an engine that was read, it stays so (P17). More tokens than shares pass, though no calls lead there, since the calls are at home with them.
func (x *Engine) consistent() bool {
	if x.supply() > api.MaxSupply {
		return false
	}
	if x.setSize() > x.top {
		return false
	}
	for val := range x.validators {
		if !x.consistentValidator(val) {
			return false
		}
	}
	return x.consistentEntries()
}

func (x *Engine) supply() int {
	sum := x.fees + x.pool
	for _, b := range x.balances {
		sum += b
	}
	for _, v := range x.validators {
		sum += v.Tokens + v.Outstanding
	}
	for _, e := range x.entries {
		sum += e.Amount
	}
	return sum
}

func (x *Engine) setSize() int {
	size := 0
	for _, v := range x.validators {
		if v.InSet {
			size++
		}
	}
	return size
}

func (x *Engine) consistentValidator(val int) bool {
	v := x.validators[val]
	if v.Shares > api.MaxShares || v.Commission > v.Outstanding {
		return false
	}
	if v.Shares == 0 && (v.Tokens > 0 || v.Outstanding > v.Commission) {
		return false
	}
	return x.coversDues(val)
}

// coversDues counts in parts of a token, not in what Due tells: what Due cuts off at several delegations is a token or more together, and a later block may bring it to light.
func (x *Engine) coversDues(val int) bool {
	left := (x.validators[val].Outstanding - x.validators[val].Commission) * partsOfToken
	for who := range x.balances {
		shares := x.shares[who][val]
		if shares > 0 {
			pending := x.pending(who, val)
			// Divided, because shares times pending could run over.
			if pending > left/shares {
				return false
			}
			left -= shares * pending
		}
	}
	return true
}

// consistentEntries takes none whose block has passed, since no later one would pay it.
func (x *Engine) consistentEntries() bool {
	latest := 0
	for _, e := range x.entries {
		if e.Made < latest || e.Made+x.mature <= x.height {
			return false
		}
		latest = e.Made
		if x.countEntries(e.Who, e.Val) > api.MaxEntries {
			return false
		}
	}
	return true
}
