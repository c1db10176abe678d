package staking_test

import (
	"fmt"
	"testing"

	"staking/api"
)

func TestP5AndP6Example(t *testing.T) {
	x := begin(t, example())
	same(t, "Send(0, 1, 5)", x.Send(0, 1, 5), api.OK)
	v := x.See()
	same(t, "balances and fees", fmt.Sprint(v.Balances, v.Fees), "[985 1005] 10")
	same(t, "Send(0, 2, 5)", x.Send(0, 2, 5), api.ErrAccount)
	v = x.See()
	same(t, "balances and fees", fmt.Sprint(v.Balances, v.Fees), "[975 1005] 20")
	same(t, "Send(2, 0, 5)", x.Send(2, 0, 5), api.ErrAccount)
	same(t, "See", x.See(), v)
}

func TestP5WhoCannotPayChangesNothing(t *testing.T) {
	g := example()
	g.Balances = []int{1000, 9}
	x := begin(t, g)
	want := x.See()
	for _, c := range []struct {
		who int
		e   api.Errno
	}{{2, api.ErrAccount}, {-1, api.ErrAccount}, {least, api.ErrAccount}, {greatest, api.ErrAccount}, {1, api.ErrFunds}} {
		same(t, fmt.Sprintf("Send(%d, 0, 1)", c.who), x.Send(c.who, 0, 1), c.e)
		same(t, fmt.Sprintf("See behind Send(%d, 0, 1)", c.who), x.See(), want)
	}
}

func TestP5BalanceOfJustTheFee(t *testing.T) {
	g := example()
	g.Balances = []int{1000, 10}
	x := begin(t, g)
	same(t, "Send behind the last of the balance", x.Send(1, 0, 1), api.ErrFunds)
	v := x.See()
	same(t, "balances and fees", fmt.Sprint(v.Balances, v.Fees), "[1000 0] 10")
}

func TestP5RefusedMessageCostsTheFeeAlone(t *testing.T) {
	x := begin(t, example())
	same(t, "no account", x.Send(0, -1, 5), api.ErrAccount)
	same(t, "no amount", x.Send(0, 1, 0), api.ErrAmount)
	same(t, "below 0", x.Send(0, 1, -5), api.ErrAmount)
	same(t, "too much", x.Send(0, 1, 5000), api.ErrFunds)
	v := x.See()
	same(t, "balances, fees, pool", fmt.Sprint(v.Balances, v.Fees, v.Pool), "[960 1000] 40 0")
}

func TestP5NoFee(t *testing.T) {
	g := example()
	g.Balances, g.Fee = []int{0, 5}, 0
	x := begin(t, g)
	same(t, "Send of nothing at hand", x.Send(0, 1, 1), api.ErrFunds)
	same(t, "Send of all", x.Send(1, 0, 5), api.OK)
	v := x.See()
	same(t, "balances and fees", fmt.Sprint(v.Balances, v.Fees), "[5 0] 0")
}

func TestP5ChainsCallsCostNothing(t *testing.T) {
	x := begin(t, example())
	x.Send(0, 0, 1)
	x.Block()
	same(t, "Spend", x.Spend(1, 4), api.OK)
	x.Block()
	v := x.See()
	same(t, "balances, fees, pool", fmt.Sprint(v.Balances, v.Fees, v.Pool), "[990 1004] 0 6")
}

func TestP6AmountIsBoundedByWhatTheFeeLeaves(t *testing.T) {
	x := begin(t, example())
	same(t, "Send of one too many", x.Send(0, 1, 991), api.ErrFunds)
	same(t, "Send of all", x.Send(0, 1, 980), api.OK)
	v := x.See()
	same(t, "balances and fees", fmt.Sprint(v.Balances, v.Fees), "[0 1980] 20")
}

func TestP6WhoMayBeTo(t *testing.T) {
	x := begin(t, example())
	same(t, "Send of all to who", x.Send(0, 0, 990), api.OK)
	same(t, "Send of too much to who", x.Send(0, 0, 981), api.ErrFunds)
	v := x.See()
	same(t, "balances and fees", fmt.Sprint(v.Balances, v.Fees), "[980 1000] 20")
}

func TestP6GoesToTheOneNamed(t *testing.T) {
	g := example()
	g.Balances = []int{100, 100, 100, 100, 100, 100}
	x := begin(t, g)
	same(t, "Send(5, 0, 1)", x.Send(5, 0, 1), api.OK)
	same(t, "Send(0, 5, 20)", x.Send(0, 5, 20), api.OK)
	same(t, "Send(2, 3, 30)", x.Send(2, 3, 30), api.OK)
	same(t, "Send(2, 6, 1)", x.Send(2, 6, 1), api.ErrAccount)
	v := x.See()
	same(t, "balances and fees", fmt.Sprint(v.Balances, v.Fees), "[71 100 50 130 100 109] 40")
}

func TestP7Spend(t *testing.T) {
	x := begin(t, example())
	same(t, "Spend of an empty pool", x.Spend(0, 1), api.ErrFunds)
	x.Send(0, 1, 5)
	same(t, "Spend of fees that are not in the pool", x.Spend(0, 1), api.ErrFunds)
	x.Send(0, 1, 5)
	x.Block()
	want := x.See()
	for _, c := range []struct {
		to, amount int
		e          api.Errno
	}{
		{2, 1, api.ErrAccount}, {-1, 1, api.ErrAccount}, {least, 1, api.ErrAccount}, {greatest, 1, api.ErrAccount},
		{0, 0, api.ErrAmount}, {0, -1, api.ErrAmount}, {0, least, api.ErrAmount},
		{0, 21, api.ErrFunds}, {0, greatest, api.ErrFunds},
	} {
		what := fmt.Sprintf("Spend(%d, %d)", c.to, c.amount)
		same(t, what, x.Spend(c.to, c.amount), c.e)
		same(t, "See behind "+what, x.See(), want)
	}
	same(t, "Spend(1, 1)", x.Spend(1, 1), api.OK)
	same(t, "Spend(0, 19)", x.Spend(0, 19), api.OK)
	same(t, "Spend of an empty pool", x.Spend(0, 1), api.ErrFunds)
	v := x.See()
	same(t, "balances, fees, pool", fmt.Sprint(v.Balances, v.Fees, v.Pool), "[989 1011] 0 0")
}
