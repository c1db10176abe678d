package staking

import "staking/api"

// The copies below keep the engine's lists and the caller's apart, both ways (P2).

func copyNumbers(list []int) []int {
	fresh := make([]int, len(list))
	copy(fresh, list)
	return fresh
}

func copyValidators(list []api.Validator) []api.Validator {
	fresh := make([]api.Validator, len(list))
	copy(fresh, list)
	return fresh
}

func copyEntries(list []api.Entry) []api.Entry {
	fresh := make([]api.Entry, len(list))
	copy(fresh, list)
	return fresh
}
