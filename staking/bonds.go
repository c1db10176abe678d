package staking

import "staking/api"

func (x *Engine) hasValidator(val int) bool {
	return val >= 0 && val < len(x.validators)
}

func (x *Engine) bondError(who int, val int, amount int) api.Errno {
	if !x.hasValidator(val) {
		return api.ErrValidator
	}
	if amount < 1 {
		return api.ErrAmount
	}
	if amount > x.balances[who] {
		return api.ErrFunds
	}
	return joinError(x.validators[val], amount)
}

func (x *Engine) unbondError(who int, val int, shares int) api.Errno {
	if !x.hasValidator(val) {
		return api.ErrValidator
	}
	if shares < 1 || shares > x.shares[who][val] {
		return api.ErrShares
	}
	// Asked even where the shares are worth no token and no entry would be made: P10 names the entries that are there alone.
	if x.countEntries(who, val) >= api.MaxEntries {
		return api.ErrFull
	}
	return api.OK
}

func (x *Engine) moveError(who int, val int, to int, shares int) api.Errno {
	if !x.hasValidator(val) {
		return api.ErrValidator
	}
	if !x.hasValidator(to) || to == val {
		return api.ErrValidator
	}
	if shares < 1 || shares > x.shares[who][val] {
		return api.ErrShares
	}
	tokens := tokensFor(x.validators[val], shares)
	if tokens < 1 {
		return api.ErrSmall
	}
	return joinError(x.validators[to], tokens)
}

// join takes tokens that were taken from elsewhere already, and that joinError let through.
func (x *Engine) join(who int, val int, tokens int) {
	x.pay(who, val)
	bought := sharesFor(x.validators[val], tokens)
	x.validators[val].Tokens += tokens
	x.validators[val].Shares += bought
	x.shares[who][val] += bought
}

// leave answers the tokens that went with the shares: where they go is the caller's.
func (x *Engine) leave(who int, val int, shares int) int {
	x.pay(who, val)
	tokens := tokensFor(x.validators[val], shares)
	x.validators[val].Tokens -= tokens
	x.validators[val].Shares -= shares
	x.shares[who][val] -= shares
	if x.validators[val].Shares == 0 {
		x.clearOutstanding(val)
	}
	return tokens
}

func (x *Engine) countEntries(who int, val int) int {
	count := 0
	for _, e := range x.entries {
		if e.Who == who && e.Val == val {
			count++
		}
	}
	return count
}

func (x *Engine) addEntry(who int, val int, tokens int) {
	if tokens < 1 {
		return
	}
	x.entries = append(x.entries, api.Entry{Who: who, Val: val, Made: x.height, Amount: tokens})
}
