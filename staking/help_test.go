package staking_test

import (
	"fmt"
	"testing"

	"staking/api"
	"staking/staking"
)

const (
	least    = -1 << 63
	greatest = 1<<63 - 1
)

// numbers has the ends of int, and both sides of the bounds that the document names.
var numbers = []int{least, least + 1, -1000001, -101, -1, 0, 1, 2, 3, 4, 5, 6, 7, 10, 20, 21, 100, 101, 999, 1000, 1001, 999999, 1000000, 1000001, 1 << 31, 1 << 32, greatest - 1, greatest}

// example is the beginning that the document's examples share.
func example() api.Genesis {
	return api.Genesis{Balances: []int{1000, 1000}, Owners: []int{0}, Rates: []int{10}, Top: 1, Mature: 2, Fee: 10}
}

func begin(t *testing.T, g api.Genesis) *staking.Engine {
	t.Helper()
	x, e := staking.New(g)
	if e != api.OK || x == nil {
		t.Fatalf("New(%+v) = %v, %d, want an engine", g, x, e)
	}
	return x
}

func same(t *testing.T, what string, got any, want any) {
	t.Helper()
	g, w := fmt.Sprintf("%+v", got), fmt.Sprintf("%+v", want)
	if g != w {
		t.Errorf("%s:\n got %s\nwant %s", what, g, w)
	}
}

// free is a beginning without a fee, with as many validators as there may be.
func free() api.Genesis {
	return api.Genesis{Balances: []int{1000, 1000, 500000}, Owners: []int{0, 1, 2, 0, 1}, Rates: []int{10, 0, 100, 5, 50}, Top: 2, Mature: 3}
}

// supply is all tokens that a view shows.
func supply(v api.View) int {
	sum := v.Fees + v.Pool + v.Bonded + v.Loose
	for _, b := range v.Balances {
		sum += b
	}
	for _, w := range v.Validators {
		sum += w.Outstanding
	}
	return sum
}

func blocks(t *testing.T, x *staking.Engine, n int) {
	t.Helper()
	for i := 0; i < n; i++ {
		if e := x.Block(); e != api.OK {
			t.Fatalf("Block number %d of %d: %d", i+1, n, e)
		}
	}
}

// refused tells that a call without a fee gave an error and changed nothing.
func refused(t *testing.T, x *staking.Engine, what string, before api.View, got api.Errno, want api.Errno) {
	t.Helper()
	same(t, what, got, want)
	same(t, "See behind "+what, x.See(), before)
}

// sound holds a view to what is true of every engine, whatever was called.
func sound(t *testing.T, what string, v api.View, tokens int) {
	t.Helper()
	bonded, loose, set := 0, 0, 0
	shares := make([]int, len(v.Validators))
	for i, w := range v.Validators {
		if w.InSet {
			set++
			bonded += w.Tokens
		} else {
			loose += w.Tokens
		}
		if w.Tokens < 0 || w.Shares < 0 || w.Shares > 1000000 || w.Tokens > 0 && w.Shares == 0 {
			t.Fatalf("%s: validator %d: %+v", what, i, w)
		}
		if w.Jailed && w.InSet {
			t.Fatalf("%s: validator %d is jailed and in the set: %+v", what, i, w)
		}
		if w.Commission < 0 || w.Outstanding < w.Commission || w.Shares == 0 && w.Outstanding > w.Commission {
			t.Fatalf("%s: validator %d: %+v", what, i, w)
		}
	}
	for i, d := range v.Delegations {
		shares[d.Val] += d.Shares
		if d.Shares < 1 || d.Who < 0 || d.Who >= len(v.Balances) {
			t.Fatalf("%s: delegation %+v", what, d)
		}
		if i > 0 && d.Who*5+d.Val <= v.Delegations[i-1].Who*5+v.Delegations[i-1].Val {
			t.Fatalf("%s: order of the delegations %+v", what, v.Delegations)
		}
	}
	for i, e := range v.Entries {
		loose += e.Amount
		if e.Amount < 0 || e.Made < 0 || e.Made > v.Height || i > 0 && e.Made < v.Entries[i-1].Made {
			t.Fatalf("%s: entries %+v", what, v.Entries)
		}
	}
	for i, w := range v.Validators {
		if shares[i] != w.Shares {
			t.Fatalf("%s: the delegations of validator %d have %d shares: %+v", what, i, shares[i], w)
		}
	}
	for i, b := range v.Balances {
		if b < 0 {
			t.Fatalf("%s: account %d has %d", what, i, b)
		}
	}
	if v.Bonded != bonded || v.Loose != loose || v.Fees < 0 || v.Pool < 0 || set > 5 || supply(v) != tokens {
		t.Fatalf("%s: %+v", what, v)
	}
}
