package staking

import "staking/api"

const hundredPercent = 100

func goodGenesis(g api.Genesis) bool {
	if !goodBalances(g.Balances) {
		return false
	}
	if !goodValidators(g.Owners, g.Rates, len(g.Balances)) {
		return false
	}
	return goodRules(g)
}

func goodBalances(balances []int) bool {
	if len(balances) < 1 || len(balances) > api.MaxAccounts {
		return false
	}
	// What is left is counted down, because a sum of any numbers could overflow.
	left := api.MaxSupply
	for _, b := range balances {
		if b < 0 || b > left {
			return false
		}
		left -= b
	}
	return true
}

func goodValidators(owners []int, rates []int, accounts int) bool {
	if len(owners) < 1 || len(owners) > api.MaxValidators || len(rates) != len(owners) {
		return false
	}
	for _, o := range owners {
		if o < 0 || o >= accounts {
			return false
		}
	}
	for _, r := range rates {
		if r < 0 || r > hundredPercent {
			return false
		}
	}
	return true
}

func goodRules(g api.Genesis) bool {
	// Top is bounded by the most validators there may be, not by how many there are.
	if g.Top < 1 || g.Top > api.MaxValidators {
		return false
	}
	if g.Mature < 1 || g.Mature > api.MaxMature {
		return false
	}
	return g.Fee >= 0 && g.Fee <= api.MaxFee
}

func newValidators(owners []int, rates []int) []api.Validator {
	var list []api.Validator
	for i := 0; i < len(owners) && i < len(rates); i++ {
		list = append(list, api.Validator{Owner: owners[i], Rate: rates[i]})
	}
	return list
}
