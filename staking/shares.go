package staking

import "staking/api"

// The products below stay far from overflow: tokens and shares are at most 1,000,000 each.

// sharesFor is how many shares an amount buys (P9).
func sharesFor(v api.Validator, amount int) int {
	if v.Shares == 0 {
		return amount
	}
	if v.Tokens == 0 {
		return 0
	}
	return amount * v.Shares / v.Tokens
}

// tokensFor is how many tokens leave with shares (P10).
func tokensFor(v api.Validator, shares int) int {
	if v.Shares == 0 {
		return 0
	}
	return shares * v.Tokens / v.Shares
}

// joinError serves Bond and Move, which P11 asks to refuse alike: they differ in where the tokens come from alone.
func joinError(v api.Validator, amount int) api.Errno {
	if v.Shares > 0 && v.Tokens == 0 {
		return api.ErrDead
	}
	bought := sharesFor(v, amount)
	if bought < 1 {
		return api.ErrSmall
	}
	if v.Shares+bought > api.MaxShares {
		return api.ErrFull
	}
	return api.OK
}
