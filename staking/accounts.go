package staking

import "staking/api"

func (x *Engine) hasAccount(who int) bool {
	return who >= 0 && who < len(x.balances)
}

// charge comes before all else in a message, because the fee stays gone even if the message is refused behind it (P5).
func (x *Engine) charge(who int) api.Errno {
	if !x.hasAccount(who) {
		return api.ErrAccount
	}
	if x.balances[who] < x.fee {
		return api.ErrFunds
	}
	x.balances[who] -= x.fee
	x.fees += x.fee
	return api.OK
}

// transferError serves Send and Spend, which P7 asks to refuse alike: they differ in where the funds lie alone.
func (x *Engine) transferError(funds int, to int, amount int) api.Errno {
	if !x.hasAccount(to) {
		return api.ErrAccount
	}
	if amount < 1 {
		return api.ErrAmount
	}
	if amount > funds {
		return api.ErrFunds
	}
	return api.OK
}
