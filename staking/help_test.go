package staking_test

import (
	"fmt"
	"testing"

	"staking/api"
	"staking/staking"
)

const (
	least    = -1 << 63
	greatest = 1<<63 - 1
)

// numbers has the ends of int, and both sides of the bounds that the document names.
var numbers = []int{least, least + 1, -1000001, -101, -1, 0, 1, 2, 3, 4, 5, 6, 7, 10, 20, 21, 100, 101, 999, 1000, 1001, 999999, 1000000, 1000001, 1 << 31, 1 << 32, greatest - 1, greatest}

// example is the beginning that the document's examples share.
func example() api.Genesis {
	return api.Genesis{Balances: []int{1000, 1000}, Owners: []int{0}, Rates: []int{10}, Top: 1, Mature: 2, Fee: 10}
}

func begin(t *testing.T, g api.Genesis) *staking.Engine {
	t.Helper()
	x, e := staking.New(g)
	if e != api.OK || x == nil {
		t.Fatalf("New(%+v) = %v, %d, want an engine", g, x, e)
	}
	return x
}

func same(t *testing.T, what string, got any, want any) {
	t.Helper()
	g, w := fmt.Sprintf("%+v", got), fmt.Sprintf("%+v", want)
	if g != w {
		t.Errorf("%s:\n got %s\nwant %s", what, g, w)
	}
}

// supply is all tokens that a view shows, as long as nobody is bonded.
func supply(v api.View) int {
	sum := v.Fees + v.Pool
	for _, b := range v.Balances {
		sum += b
	}
	return sum
}

func blocks(t *testing.T, x *staking.Engine, n int) {
	t.Helper()
	for i := 0; i < n; i++ {
		if e := x.Block(); e != api.OK {
			t.Fatalf("Block number %d of %d: %d", i+1, n, e)
		}
	}
}
