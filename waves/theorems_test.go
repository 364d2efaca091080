package waves_test

import (
	"slices"
	"testing"

	"cloche/api"
	"cloche/waves"
)

// value fails the test where there is an error.
func value[T any](t *testing.T) func(T, api.Errno) T {
	return func(v T, e api.Errno) T {
		t.Helper()
		if e != api.OK {
			t.Fatal(v, e)
		}
		return v
	}
}

// P5.6 (Seidel, Entringer)
func TestTriangleCounts(t *testing.T) {
	number := value[int](t)
	triangle := value[[][]int](t)(waves.Triangle(10))
	for n, row := range triangle {
		count := number(waves.Count(n))
		if row[n] != count {
			t.Error(n, row, count)
		}
		total := 0
		for first := 1; first <= n; first++ {
			from := number(waves.From(n, first))
			if from != row[first]-row[first-1] {
				t.Error(n, first, from, row)
			}
			total += from
		}
		if n > 0 && total != count {
			t.Error(n, total, count)
		}
	}
}

// P5.7 (André); the last numbers of the triangle go on with it beyond MaxRow
func TestTwiceCount(t *testing.T) {
	number := value[int](t)
	triangle := value[[][]int](t)(waves.Triangle(18))
	ways := []int{1} // to choose k of n
	for n := 1; n < 18; n++ {
		ways = append(ways, 0)
		for k := n; k > 0; k-- {
			ways[k] += ways[k-1]
		}
		counted, filled := 0, 0
		for k := range n + 1 {
			filled += ways[k] * triangle[k][k] * triangle[n-k][n-k]
			if n < 10 {
				counted += ways[k] * number(waves.Count(k)) * number(waves.Count(n-k))
			}
		}
		if filled != 2*triangle[n+1][n+1] {
			t.Error(n, filled)
		}
		if n < 10 && counted != 2*number(waves.Count(n+1)) {
			t.Error(n, counted)
		}
	}
}

// P5.8 (turned)
func TestTurnedWaves(t *testing.T) {
	is, list := value[bool](t), value[[]int](t)
	for n := 2; n <= 8; n++ {
		for _, row := range rowsOf(n) {
			turned := list(waves.Turned(row))
			some := is(waves.IsWave(row)) || is(waves.IsWave(turned))
			if turns := value[int](t)(waves.Turns(row)); some != (turns == n-2) {
				t.Error(row, turned, some, turns)
			}
			if again := list(waves.Turned(turned)); !slices.Equal(again, row) {
				t.Error(row, turned, again)
			}
		}
	}
	for n := 0; n <= 10; n += 2 {
		for _, wave := range wavesOf(n) {
			turned := list(waves.Turned(wave))
			slices.Reverse(turned)
			if !is(waves.IsWave(turned)) {
				t.Error(wave, turned)
			}
		}
	}
}

// P5.9 (Foata and Schützenberger)
func TestAndreIsCount(t *testing.T) {
	number := value[int](t)
	for n := range 11 {
		if andre, count := number(waves.Andre(n)), number(waves.Count(n)); andre != count {
			t.Error(n, andre, count)
		}
	}
}

// P5.10 (ranks)
func TestRanksUndo(t *testing.T) {
	number, list := value[int](t), value[[]int](t)
	for n := range 11 {
		var last []int
		count := number(waves.Count(n))
		for rank := range count {
			wave := list(waves.At(n, rank))
			if back := number(waves.Rank(wave)); back != rank || !isWave(wave) || len(wave) != n {
				t.Fatal(n, rank, wave, back)
			}
			if rank > 0 && slices.Compare(last, wave) >= 0 {
				t.Fatal(n, rank, last, wave)
			}
			last = wave
		}
		if _, e := waves.At(n, count); e != api.ErrRange {
			t.Error(n, e)
		}
	}
}

// P5.11 (Springer, Arnold)
func TestSnakesAreTurnedWaves(t *testing.T) {
	is := value[bool](t)
	for n := range 7 {
		for _, row := range rowsOf(n) {
			turned := value[[]int](t)(waves.Turned(row))
			if snake, wave := is(waves.IsSnake(row)), is(waves.IsWave(turned)); snake != wave {
				t.Error(row, snake, wave)
			}
		}
	}
	for n, want := range []int{1, 1, 3, 11, 57, 361, 2763} {
		if snakes := value[int](t)(waves.Snakes(n)); snakes != want {
			t.Error(n, snakes)
		}
	}
}
