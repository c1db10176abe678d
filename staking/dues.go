package staking

import "staking/api"

// partsOfToken is how fine perShare is. It is above MaxHeight times MaxShares, so that what is cut off at a delegation over all blocks is below one token, and what it is paid is not 2 below what it is due (P12). Even a million tokens a block, shared out to one share, stay below 1<<60.
const partsOfToken = 1 << 30

// shareOut writes down what one share gets, not what each delegation gets: that is worked out when it is asked for.
func (x *Engine) shareOut(val int, amount int) {
	shares := x.validators[val].Shares
	if shares < 1 {
		return
	}
	x.perShare[val] += amount * partsOfToken / shares
}

func (x *Engine) dueError(who int, val int) api.Errno {
	if !x.hasValidator(val) {
		return api.ErrValidator
	}
	if x.shares[who][val] < 1 {
		return api.ErrShares
	}
	return api.OK
}

// pending is what was shared out to one share since the delegation was made or last paid, in parts of a token.
func (x *Engine) pending(who int, val int) int {
	return x.perShare[val] - x.paidUpTo[who][val]
}

// due is 0 where there is no delegation. The product is at most partsOfToken times what is outstanding.
func (x *Engine) due(who int, val int) int {
	pending := x.pending(who, val)
	return x.shares[who][val] * pending / partsOfToken
}

// pay must come before a delegation's shares change, since due takes it that they are as many as they were in all blocks since. A delegation that is about to be made begins by it, too: it gets nothing of earlier blocks.
func (x *Engine) pay(who int, val int) {
	amount := x.due(who, val)
	x.validators[val].Outstanding -= amount
	x.balances[who] += amount
	x.paidUpTo[who][val] = x.perShare[val]
}

func (x *Engine) ownerError(who int, val int) api.Errno {
	if !x.hasValidator(val) {
		return api.ErrValidator
	}
	if x.validators[val].Owner != who {
		return api.ErrOwner
	}
	return api.OK
}

func (x *Engine) payCommission(who int, val int) {
	x.balances[who] += x.validators[val].Commission
	x.validators[val].Outstanding -= x.validators[val].Commission
	x.validators[val].Commission = 0
}

// clearOutstanding keeps the commission, which is the owner's even where nobody has shares (P10).
func (x *Engine) clearOutstanding(val int) {
	x.pool += x.validators[val].Outstanding - x.validators[val].Commission
	x.validators[val].Outstanding = x.validators[val].Commission
}
