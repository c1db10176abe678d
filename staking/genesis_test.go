package staking_test

import (
	"testing"

	"staking/api"
	"staking/staking"
)

func TestP3Bounds(t *testing.T) {
	zeros := func(n int) []int { return make([]int, n) }
	for _, c := range []struct {
		what   string
		change func(g *api.Genesis)
		good   bool
	}{
		{"the example", func(g *api.Genesis) {}, true},
		{"no list of accounts", func(g *api.Genesis) { g.Balances = nil }, false},
		{"no accounts", func(g *api.Genesis) { g.Balances = []int{} }, false},
		{"1 account", func(g *api.Genesis) { g.Balances = zeros(1) }, true},
		{"6 accounts", func(g *api.Genesis) { g.Balances = zeros(6) }, true},
		{"7 accounts", func(g *api.Genesis) { g.Balances = zeros(7) }, false},
		{"a balance below 0 at first", func(g *api.Genesis) { g.Balances = []int{-1, 1000} }, false},
		{"a balance below 0 at last", func(g *api.Genesis) { g.Balances = []int{1000, -1} }, false},
		{"all tokens at one account", func(g *api.Genesis) { g.Balances = []int{1000000} }, true},
		{"one token too many", func(g *api.Genesis) { g.Balances = []int{1000001} }, false},
		{"all tokens at six accounts", func(g *api.Genesis) { g.Balances = []int{1, 2, 3, 4, 5, 999985} }, true},
		{"one too many at six accounts", func(g *api.Genesis) { g.Balances = []int{1, 2, 3, 4, 5, 999986} }, false},
		{"too many, made up for below 0", func(g *api.Genesis) { g.Balances = []int{1000001, -1} }, false},
		{"a sum that runs over to 0", func(g *api.Genesis) { g.Balances = []int{1 << 62, 1 << 62, 1 << 62, 1 << 62} }, false},
		{"no list of validators", func(g *api.Genesis) { g.Owners, g.Rates = nil, nil }, false},
		{"no validators", func(g *api.Genesis) { g.Owners, g.Rates = []int{}, []int{} }, false},
		{"5 validators", func(g *api.Genesis) { g.Owners, g.Rates = zeros(5), zeros(5) }, true},
		{"6 validators", func(g *api.Genesis) { g.Owners, g.Rates = zeros(6), zeros(6) }, false},
		{"a rate too few", func(g *api.Genesis) { g.Owners, g.Rates = zeros(3), zeros(2) }, false},
		{"a rate too many", func(g *api.Genesis) { g.Owners, g.Rates = zeros(3), zeros(4) }, false},
		{"no rates", func(g *api.Genesis) { g.Rates = nil }, false},
		{"the last account owns", func(g *api.Genesis) { g.Owners[0] = 1 }, true},
		{"no account owns", func(g *api.Genesis) { g.Owners[0] = 2 }, false},
		{"an owner below 0", func(g *api.Genesis) { g.Owners[0] = -1 }, false},
		{"no account owns the last", func(g *api.Genesis) { g.Owners, g.Rates = []int{0, 1, 2}, zeros(3) }, false},
		{"rate 0", func(g *api.Genesis) { g.Rates[0] = 0 }, true},
		{"rate 100", func(g *api.Genesis) { g.Rates[0] = 100 }, true},
		{"rate 101", func(g *api.Genesis) { g.Rates[0] = 101 }, false},
		{"rate -1", func(g *api.Genesis) { g.Rates[0] = -1 }, false},
		{"rate 101 at last", func(g *api.Genesis) { g.Owners, g.Rates = zeros(3), []int{0, 0, 101} }, false},
		{"Top 0", func(g *api.Genesis) { g.Top = 0 }, false},
		{"Top -1", func(g *api.Genesis) { g.Top = -1 }, false},
		{"Top 5", func(g *api.Genesis) { g.Top = 5 }, true},
		{"Top 6", func(g *api.Genesis) { g.Top = 6 }, false},
		{"Mature 0", func(g *api.Genesis) { g.Mature = 0 }, false},
		{"Mature 1", func(g *api.Genesis) { g.Mature = 1 }, true},
		{"Mature 20", func(g *api.Genesis) { g.Mature = 20 }, true},
		{"Mature 21", func(g *api.Genesis) { g.Mature = 21 }, false},
		{"Fee -1", func(g *api.Genesis) { g.Fee = -1 }, false},
		{"Fee 0", func(g *api.Genesis) { g.Fee = 0 }, true},
		{"Fee 100", func(g *api.Genesis) { g.Fee = 100 }, true},
		{"Fee 101", func(g *api.Genesis) { g.Fee = 101 }, false},
	} {
		g := example()
		c.change(&g)
		want := api.OK
		if !c.good {
			want = api.ErrGenesis
		}
		x, e := staking.New(g)
		if e != want || (x != nil) != c.good {
			t.Errorf("%s: New(%+v) = %v, %d, want %d", c.what, g, x, e, want)
		}
	}
}

func TestP3AndP4SeeOfABeginning(t *testing.T) {
	g := api.Genesis{Balances: []int{5, 0, 999000, 7, 8, 9}, Owners: []int{5, 0, 2, 2, 1}, Rates: []int{0, 100, 7, 8, 9}, Top: 5, Mature: 20, Fee: 100}
	v := begin(t, g).See()
	want := api.View{
		Balances: []int{5, 0, 999000, 7, 8, 9},
		Validators: []api.Validator{
			{Owner: 5, Rate: 0},
			{Owner: 0, Rate: 100},
			{Owner: 2, Rate: 7},
			{Owner: 2, Rate: 8},
			{Owner: 1, Rate: 9},
		},
	}
	same(t, "See of a beginning", v, want)
}
