package staking_test

import (
	"fmt"
	"testing"

	"staking/api"
	"staking/staking"
)

func TestP8FeesGoToThePoolWhereNobodyIsBonded(t *testing.T) {
	x := begin(t, example())
	x.Send(0, 0, 1)
	x.Send(1, 7, 1)
	same(t, "Block", x.Block(), api.OK)
	want := api.View{Height: 1, Balances: []int{990, 990}, Pool: 20, Validators: []api.Validator{{Owner: 0, Rate: 10}}}
	same(t, "See", x.See(), want)
	same(t, "Block without fees", x.Block(), api.OK)
	want.Height = 2
	same(t, "See behind a Block without fees", x.See(), want)
	x.Send(0, 0, 1)
	same(t, "Block with new fees", x.Block(), api.OK)
	want.Height, want.Balances[0], want.Pool = 3, 980, 30
	same(t, "See behind a Block with new fees", x.See(), want)
}

func TestP8NobodyIsChosenWithoutTokens(t *testing.T) {
	g := example()
	g.Owners, g.Rates, g.Top = []int{0, 1, 1}, []int{10, 20, 30}, 5
	x := begin(t, g)
	want := x.See().Validators
	x.Send(0, 1, 5)
	blocks(t, x, 3)
	same(t, "validators", x.See().Validators, want)
}

func TestP8LastBlock(t *testing.T) {
	x := begin(t, example())
	blocks(t, x, 999)
	same(t, "height", x.See().Height, 999)
	x.Send(0, 1, 1)
	same(t, "Block at 999", x.Block(), api.OK)
	same(t, "height and pool", fmt.Sprint(x.See().Height, x.See().Pool), "1000 10")
	x.Send(0, 1, 1)
	want := x.See()
	same(t, "Block at 1000", x.Block(), api.ErrEnd)
	same(t, "Block at 1000, again", x.Block(), api.ErrEnd)
	same(t, "See behind a Block that was refused", x.See(), want)
	same(t, "fees", want.Fees, 10)
}

func TestP8MessagesGoOnBehindTheLastBlock(t *testing.T) {
	x := begin(t, example())
	x.Send(0, 1, 5)
	blocks(t, x, 1000)
	same(t, "Send", x.Send(0, 1, 5), api.OK)
	same(t, "Spend", x.Spend(0, 10), api.OK)
	v := x.See()
	same(t, "balances, fees, pool", fmt.Sprint(v.Balances, v.Fees, v.Pool), "[980 1010] 10 0")
}

// set tells who is in the set, as a string with a 1 for each that is.
func set(x *staking.Engine) string {
	s := ""
	for _, v := range x.See().Validators {
		if v.InSet {
			s += "1"
		} else {
			s += "0"
		}
	}
	return s
}

func TestP8EntriesArePaidWhenTheyAreMature(t *testing.T) {
	for _, mature := range []int{1, 2, 20} {
		g := free()
		g.Mature = mature
		x := begin(t, g)
		x.Bond(0, 0, 300)
		blocks(t, x, 5)
		x.Unbond(0, 0, 40)
		blocks(t, x, mature-1)
		x.Unbond(0, 0, 2)
		v := x.See()
		same(t, "ahead of the payment", fmt.Sprint(v.Balances[0], v.Bonded, v.Loose, len(v.Entries)), "700 258 42 2")
		blocks(t, x, 1)
		v = x.See()
		if mature == 1 {
			same(t, "behind the payment of both", fmt.Sprint(v.Balances[0], v.Bonded, v.Loose, v.Entries), "742 258 0 []")
			continue
		}
		same(t, "behind the payment", fmt.Sprint(v.Balances[0], v.Bonded, v.Loose), "740 258 2")
		same(t, "the entry that is left", v.Entries, fmt.Sprintf("[{Who:0 Val:0 Made:%d Amount:2}]", 4+mature))
		blocks(t, x, mature-2)
		same(t, "ahead of the second payment", x.See().Balances[0], 740)
		blocks(t, x, 1)
		same(t, "behind the second payment", fmt.Sprint(x.See().Balances[0], x.See().Entries), "742 []")
	}
}

func TestP8EachIsPaidHisOwn(t *testing.T) {
	x := begin(t, free())
	x.Bond(0, 0, 100)
	x.Bond(1, 0, 100)
	x.Bond(2, 3, 100)
	x.Unbond(2, 3, 30)
	x.Unbond(0, 0, 10)
	x.Unbond(1, 0, 20)
	x.Unbond(0, 0, 5)
	blocks(t, x, 3)
	v := x.See()
	same(t, "balances and entries", fmt.Sprint(v.Balances, v.Entries), "[915 920 499930] []")
}

func TestP8EntriesOfTheEndAreNotPaid(t *testing.T) {
	x := begin(t, free())
	x.Bond(0, 0, 100)
	blocks(t, x, 997)
	x.Unbond(0, 0, 10)
	blocks(t, x, 1)
	x.Unbond(0, 0, 20)
	blocks(t, x, 2)
	same(t, "balance at the end", x.See().Balances[0], 910)
	same(t, "Unbond at the end", x.Unbond(0, 0, 70), api.OK)
	same(t, "Block at the end", x.Block(), api.ErrEnd)
	same(t, "entries", x.See().Entries, "[{Who:0 Val:0 Made:998 Amount:20} {Who:0 Val:0 Made:1000 Amount:70}]")
}

func TestP8SetHasThoseWithMostTokens(t *testing.T) {
	tokens := []int{20, 50, 30, 10, 40}
	for top, want := range map[int]string{1: "01000", 2: "01001", 3: "01101", 4: "11101", 5: "11111"} {
		g := free()
		g.Top = top
		x := begin(t, g)
		sum, bonded := 0, 0
		for val, n := range tokens {
			x.Bond(2, val, n)
			sum += n
			if want[val] == '1' {
				bonded += n
			}
		}
		same(t, "the set ahead of a Block", set(x), "00000")
		x.Block()
		same(t, fmt.Sprintf("the set of %d", top), set(x), want)
		same(t, "Bonded and Loose", fmt.Sprint(x.See().Bonded, x.See().Loose), fmt.Sprint(bonded, sum-bonded))
	}
}

func TestP8OfTwoWithAsManyTheLowerNumberGoesFirst(t *testing.T) {
	for top, want := range map[int]string{1: "00100", 2: "10100", 3: "10110", 4: "10111", 5: "11111"} {
		g := free()
		g.Top = top
		x := begin(t, g)
		for _, b := range [][2]int{{4, 5}, {3, 5}, {0, 5}, {2, 6}, {1, 4}} {
			x.Bond(2, b[0], b[1])
		}
		x.Block()
		same(t, fmt.Sprintf("the set of %d", top), set(x), want)
	}
}

func TestP8SetIsChosenAnewByBlocksAlone(t *testing.T) {
	x := begin(t, free())
	x.Bond(2, 3, 10)
	x.Block()
	same(t, "the set of one", set(x), "00010")
	x.Bond(2, 1, 20)
	x.Bond(2, 0, 30)
	same(t, "the set till the Block", set(x), "00010")
	x.Block()
	same(t, "the set of two others", set(x), "11000")
	x.Unbond(2, 0, 30)
	x.Move(2, 1, 4, 20)
	same(t, "the set of two without tokens", set(x), "11000")
	same(t, "Bonded and Loose", fmt.Sprint(x.See().Bonded, x.See().Loose), "0 60")
	x.Block()
	same(t, "the set of those that have tokens", set(x), "00011")
	same(t, "Bonded and Loose", fmt.Sprint(x.See().Bonded, x.See().Loose), "30 30")
}
