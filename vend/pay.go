package vend

import (
	"slices"

	"coilrack/api"
)

// never is more coins than any amount needs: no coin is worth less than 1.
const never = api.MaxAmount + 1

// pay returns how many coins of each tube pay an amount, with as few coins as possible; false if none do.
func pay(l []api.Tube, amount int) ([]int, bool) {
	rows := fewest(l, amount)
	if rows[len(l)][amount] == never {
		return nil, false
	}
	coins := make([]int, len(l))
	left := amount
	// From the greatest Value down, and each time as many as any best way has: so ties go to the greater coins.
	for i, t := range slices.Backward(l) {
		k := min(t.Count, left/t.Value)
		for rows[i][left-k*t.Value]+k != rows[i+1][left] {
			k--
		}
		coins[i] = k
		left -= k * t.Value
	}
	return coins, true
}

// payer returns a function that reports whether an amount up to most can be paid.
func payer(l []api.Tube, most int) func(amount int) bool {
	best := fewest(l, most)[len(l)]
	return func(amount int) bool { return best[amount] != never }
}

// fewest returns rows: row i has, for each amount up to most, the least number of coins of the first i tubes that pay it, or never.
func fewest(l []api.Tube, most int) [][]int {
	first := make([]int, most+1)
	for a := 1; a <= most; a++ {
		first[a] = never
	}
	rows := [][]int{first}
	for i, t := range l {
		row := slices.Clone(rows[i])
		left := min(t.Count, most/t.Value)
		// Rolls of 1, 2, 4 .. coins and of the rest make every number of coins, and are far fewer than coins.
		for roll := 1; left > 0; roll *= 2 {
			n := min(roll, left)
			useRoll(row, n, n*t.Value)
			left -= n
		}
		rows = append(rows, row)
	}
	return rows
}

// useRoll lets each amount of a row be paid with a roll of n coins, at most once.
func useRoll(row []int, n, value int) {
	for a := len(row) - 1; a >= value; a-- {
		row[a] = min(row[a], row[a-value]+n)
	}
}

// settle puts coins into tubes as far as there is room, and returns the value of the others.
func settle(l []api.Tube, add []int) ([]api.Tube, int) {
	tubes := slices.Clone(l)
	over := 0
	for i, t := range l {
		n := min(add[i], t.Most-t.Count)
		tubes[i].Count += n
		over += (add[i] - n) * t.Value
	}
	return tubes, over
}
