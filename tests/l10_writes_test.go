package tests

import (
	"math"
	"slices"
	"testing"

	"loop.example/g00983/impl"
)

// countedMemory has other words everywhere; some of them are no values.
func countedMemory(size int) []int {
	mem := []int{}
	for i := range size {
		mem = append(mem, 3000000-700001*i)
	}
	return mem
}

func somePlaces() []int { return []int{0, 1, 2, 7, 24, 47, 48} }

// noPlaces are the numbers of words that do not exist in a memory of this size.
func noPlaces(size int) []int {
	list := []int{-1, -2, -size, -size - 1, size, size + 1, 2*size + 1, 1 << 40, -(1 << 40)}
	return slices.DeleteFunc(append(list, farNumbers()...), func(at int) bool { return at >= 0 && at < size })
}

func someContents() []int {
	return []int{0, -1, 5, 1000000, -1000000, 1000001, 3141, math.MaxInt, math.MinInt}
}

// someCounts are numbers of writes at each edge of a list of this size.
func someCounts(size int) []int {
	list := []int{0, 1, 2, size / 2, size - 2, size - 1, size, size + 1, size + 2, 2 * size, -1, -2, -size}
	return append(list, farNumbers()...)
}

func writesAt(places ...int) []impl.Write {
	list := []impl.Write{}
	for i, at := range places {
		list = append(list, impl.Write{At: at, Value: 9000 + i})
	}
	return list
}

// variedWrites are lists of up to 30 writes, with repeated words and words that do not exist in a memory of this size.
func variedWrites(size int) [][]impl.Write {
	next := chooser(10)
	lists := [][]impl.Write{nil, {}, writesAt(-1), writesAt(size), writesAt(0, 0, 0), writesAt(noPlaces(size)...), writesAt(somePlaces()...)}
	for range 300 {
		list := []impl.Write{}
		for range next(31) {
			at := next(size+4) - 2
			if next(3) == 0 {
				at = next(3)
			}
			list = append(list, impl.Write{At: at, Value: []int{next(2000) - 1000, 1000001 + next(50), math.MinInt + next(9)}[next(3)]})
		}
		lists = append(lists, list)
	}
	return lists
}

// wantedApplied finds for each word by itself the last write to it among the first count ones.
func wantedApplied(mem []int, list []impl.Write, count int) []int {
	want := []int{}
	for at, content := range mem {
		for n, w := range list {
			if n < count && w.At == at {
				content = w.Value
			}
		}
		want = append(want, content)
	}
	return want
}

// wantedTouched visits the places in ascending order, each as often as it is written.
func wantedTouched(list []impl.Write) []int {
	want := []int{}
	left := slices.Clone(list)
	for len(left) > 0 {
		least := left[0].At
		for _, w := range left {
			least = min(least, w.At)
		}
		want = append(want, least)
		left = slices.DeleteFunc(left, func(w impl.Write) bool { return w.At == least })
	}
	return want
}

func wantedDiffering(a, b []int) int {
	for i := range len(a) + len(b) {
		if (i < len(a)) != (i < len(b)) {
			return i
		}
		if i < len(a) && a[i] != b[i] {
			return i
		}
	}
	return -1
}

func checkWriteWord(t *testing.T, mem []int, w impl.Write, want []int) {
	t.Helper()
	if got := impl.WriteWord(mem, w); !slices.Equal(got, want) {
		t.Errorf("WriteWord(%v, %v) = %v; want %v", mem, w, got, want)
	}
}

func checkApply(t *testing.T, mem []int, list []impl.Write, count int, want []int) {
	t.Helper()
	if got := impl.ApplyWrites(mem, list, count); !slices.Equal(got, want) {
		t.Errorf("ApplyWrites(%v, %v, %d) = %v; want %v", mem, list, count, got, want)
	}
}

func checkDiffering(t *testing.T, a, b []int, want int) {
	t.Helper()
	if got := impl.FirstDiffering(a, b); got != want {
		t.Errorf("FirstDiffering(%v, %v) = %d; want %d", a, b, got, want)
	}
	if got := impl.FirstDiffering(b, a); got != want {
		t.Errorf("FirstDiffering(%v, %v) = %d; want %d", b, a, got, want)
	}
}

func checkTouched(t *testing.T, list []impl.Write, want []int) {
	t.Helper()
	if got := impl.TouchedWords(list); !slices.Equal(got, want) {
		t.Errorf("TouchedWords(%v) = %v; want %v", list, got, want)
	}
}

func TestWriteWord(t *testing.T) {
	checkWriteWord(t, []int{1, 2, 3}, impl.Write{At: 0, Value: 9}, []int{9, 2, 3})
	checkWriteWord(t, []int{1, 2, 3}, impl.Write{At: 1, Value: 9}, []int{1, 9, 3})
	checkWriteWord(t, []int{1, 2, 3}, impl.Write{At: 2, Value: 9}, []int{1, 2, 9})
	checkWriteWord(t, []int{1, 2, 3}, impl.Write{At: 3, Value: 9}, []int{1, 2, 3})
	checkWriteWord(t, []int{1, 2, 3}, impl.Write{At: -1, Value: 9}, []int{1, 2, 3})
	checkWriteWord(t, []int{1, 2, 3}, impl.Write{}, []int{0, 2, 3})
	checkWriteWord(t, []int{4}, impl.Write{At: 0, Value: 4}, []int{4})
}

// Promise 10: a single write is seen at its word, and at no other one.
func TestWriteWordAtEachWord(t *testing.T) {
	for _, size := range []int{1, 2, 3, 8, 49, 50, 130} {
		mem := countedMemory(size)
		for at := range size {
			for _, content := range someContents() {
				w := impl.Write{At: at, Value: content}
				want := slices.Clone(mem)
				want[at] = content
				checkWriteWord(t, mem, w, want)
				checkApply(t, mem, []impl.Write{w}, 1, want)
				checkApply(t, mem, []impl.Write{w}, 0, mem)
				checkDiffering(t, mem, want, wantedDiffering(mem, want))
				if got := impl.FirstDiffering(mem, want); got != at && content != mem[at] {
					t.Errorf("the write %v is first seen at %d", w, got)
				}
			}
		}
	}
}

func TestWriteWordThatDoesNotExist(t *testing.T) {
	for size := range 60 {
		mem := countedMemory(size)
		for _, at := range noPlaces(size) {
			checkWriteWord(t, mem, impl.Write{At: at, Value: 5}, mem)
			checkApply(t, mem, writesAt(at), 1, mem)
		}
	}
	for at := -70; at <= 120; at++ {
		checkWriteWord(t, make([]int, 49), impl.Write{At: at, Value: 5}, wantedApplied(make([]int, 49), []impl.Write{{At: at, Value: 5}}, 1))
	}
}

func TestWritesWithoutElements(t *testing.T) {
	for _, mem := range [][]int{nil, {}, countedMemory(3)[:0]} {
		for _, list := range append(variedWrites(5), writesAt(0), writesAt(0, -1, 1)) {
			for _, count := range someCounts(len(list)) {
				checkApply(t, mem, list, count, nil)
			}
		}
		for _, at := range append(noPlaces(0), 0, 1) {
			checkWriteWord(t, mem, impl.Write{At: at, Value: 7}, nil)
		}
	}
	for _, list := range [][]impl.Write{nil, {}, writesAt(1, 2)[:0]} {
		for _, count := range someCounts(0) {
			checkApply(t, countedMemory(6), list, count, countedMemory(6))
		}
		checkTouched(t, list, nil)
	}
}

func TestApplyWrites(t *testing.T) {
	list := []impl.Write{{At: 2, Value: 5}, {At: 7, Value: 1}, {At: 0, Value: 9}, {At: 2, Value: -6}, {At: -1, Value: 8}, {At: 1, Value: 1000001}}
	for _, c := range []struct {
		count int
		want  []int
	}{
		{0, []int{10, 20, 30}}, {1, []int{10, 20, 5}}, {2, []int{10, 20, 5}}, {3, []int{9, 20, 5}}, {4, []int{9, 20, -6}}, {5, []int{9, 20, -6}}, {6, []int{9, 1000001, -6}},
		{7, []int{9, 1000001, -6}}, {100, []int{9, 1000001, -6}}, {math.MaxInt, []int{9, 1000001, -6}}, {-1, []int{10, 20, 30}}, {-6, []int{10, 20, 30}}, {math.MinInt, []int{10, 20, 30}},
	} {
		checkApply(t, []int{10, 20, 30}, list, c.count, c.want)
	}
	// Of several writes to one word, the last one that is applied counts.
	same := []impl.Write{{At: 1, Value: 4}, {At: 1, Value: 3}, {At: 1, Value: 8}}
	for count, want := range []int{20, 4, 3, 8} {
		checkApply(t, []int{10, 20, 30}, same, count, []int{10, want, 30})
	}
}

func TestApplyWritesOfManyLists(t *testing.T) {
	for _, size := range []int{1, 5, 49} {
		mem := countedMemory(size)
		for _, list := range variedWrites(size) {
			for count := -2; count <= len(list)+2; count++ {
				checkApply(t, mem, list, count, wantedApplied(mem, list, count))
			}
			for _, count := range someCounts(len(list)) {
				checkApply(t, mem, list, count, wantedApplied(mem, list, count))
			}
		}
	}
}

// Words that do not exist, ahead of, between and behind other writes.
func TestApplyWritesWithWordsThatDoNotExist(t *testing.T) {
	mem := countedMemory(9)
	for _, at := range noPlaces(9) {
		for place := range 4 {
			list := slices.Insert(writesAt(8, 0, 4), place, impl.Write{At: at, Value: -5})
			for count := range 6 {
				checkApply(t, mem, list, count, wantedApplied(mem, list, count))
			}
		}
	}
}

// Promise 10: the first writes and then the rest do what all of them do, and do it one by one as well.
func TestWritesCanBeAppliedInTwoParts(t *testing.T) {
	for _, size := range []int{1, 6, 49} {
		mem := countedMemory(size)
		for _, list := range variedWrites(size) {
			whole := impl.ApplyWrites(mem, list, len(list))
			single := slices.Clone(mem)
			for count := range len(list) + 1 {
				first := impl.ApplyWrites(mem, list, count)
				if !slices.Equal(first, single) {
					t.Errorf("%v: the first %d at once are %v; one by one, %v", list, count, first, single)
				}
				checkApply(t, first, list[count:], len(list)-count, whole)
				checkApply(t, first, list[count:], math.MaxInt, whole)
				if count < len(list) {
					single = impl.WriteWord(single, list[count])
				}
			}
		}
	}
}

// Promise 10: words that are not touched keep their content, and those that are touched have that of the last write.
func TestUntouchedWordsKeepTheirContent(t *testing.T) {
	for _, size := range []int{1, 6, 49} {
		mem := countedMemory(size)
		for _, list := range variedWrites(size) {
			for count := range len(list) + 1 {
				touched, got := impl.TouchedWords(list[:count]), impl.ApplyWrites(mem, list, count)
				for at := range mem {
					if !impl.HasVar(touched, at) && got[at] != mem[at] {
						t.Errorf("%v touches %v, but changes the word %d", list[:count], touched, at)
					}
				}
				// What the writes are applied to does not matter where they write.
				other := impl.ApplyWrites(make([]int, size), list, count)
				for _, at := range touched {
					if at >= 0 && at < size && other[at] != got[at] {
						t.Errorf("%v: the word %d is %d or %d", list[:count], at, got[at], other[at])
					}
				}
				if i := impl.FirstDiffering(mem, got); i != -1 && !impl.HasVar(touched, i) {
					t.Errorf("%v touches %v, but %d differs", list[:count], touched, i)
				}
			}
		}
	}
}

func TestFirstDiffering(t *testing.T) {
	for _, c := range []struct {
		a, b []int
		want int
	}{
		{nil, nil, -1}, {nil, []int{}, -1}, {[]int{}, []int{}, -1}, {[]int{0}, []int{0}, -1}, {[]int{4, 5, 6}, []int{4, 5, 6}, -1},
		{nil, []int{0}, 0}, {[]int{}, []int{7, 8}, 0}, {[]int{1}, []int{1, 2}, 1}, {[]int{1, 2}, []int{1, 2, 0, 0}, 2}, {[]int{1, 2}, []int{1, 3, 0, 0}, 1}, {[]int{9}, []int{1, 3, 0}, 0},
		{[]int{4, 5, 6}, []int{3, 5, 6}, 0}, {[]int{4, 5, 6}, []int{4, 6, 6}, 1}, {[]int{4, 5, 6}, []int{4, 5, 7}, 2}, {[]int{4, 5, 6}, []int{4, 6, 5}, 1}, {[]int{4, 5, 6}, []int{6, 5, 4}, 0},
		{[]int{4, 5, 6}, []int{7, 8, 9}, 0}, {[]int{0, 0, 1}, []int{0, 0, -1}, 2}, {[]int{math.MaxInt}, []int{math.MinInt}, 0}, {[]int{1 << 32}, []int{0}, 0}, {[]int{math.MinInt, 1}, []int{math.MinInt}, 1},
	} {
		checkDiffering(t, c.a, c.b, c.want)
	}
}

// One word, two words and all words behind a place differ.
func TestFirstDifferingAtEachWord(t *testing.T) {
	for size := 1; size <= 60; size++ {
		mem := countedMemory(size)
		checkDiffering(t, mem, countedMemory(size), -1)
		for at := range size {
			for _, by := range []int{1, -1, 1 << 32, math.MinInt} {
				one := slices.Clone(mem)
				one[at] += by
				checkDiffering(t, mem, one, at)
				one[size-1] += 2
				checkDiffering(t, mem, one, at)
				one[0] += 5
				checkDiffering(t, mem, one, 0)
			}
			rest := append(slices.Clone(mem[:at]), make([]int, size-at)...)
			checkDiffering(t, mem, rest, wantedDiffering(mem, rest))
		}
	}
}

func TestFirstDifferingOfDifferentLengths(t *testing.T) {
	for size := range 60 {
		for shorter := range size {
			checkDiffering(t, countedMemory(size)[:shorter], countedMemory(size), shorter)
			// A word that does not exist is not one that contains 0.
			checkDiffering(t, make([]int, shorter), make([]int, size), shorter)
			for at := range shorter {
				changed := countedMemory(shorter)
				changed[at]--
				checkDiffering(t, changed, countedMemory(size), at)
			}
		}
	}
}

func TestTouchedWords(t *testing.T) {
	for _, c := range []struct{ places, want []int }{
		{nil, nil}, {[]int{0}, []int{0}}, {[]int{5}, []int{5}}, {[]int{1, 2, 3}, []int{1, 2, 3}}, {[]int{3, 2, 1}, []int{1, 2, 3}}, {[]int{2, 7, 2, 0}, []int{0, 2, 7}},
		{[]int{4, 4}, []int{4}}, {[]int{4, 4, 4, 4}, []int{4}}, {[]int{4, 1, 4, 1}, []int{1, 4}}, {[]int{1, 4, 4, 1}, []int{1, 4}}, {[]int{0, 48, 0, 48, 24}, []int{0, 24, 48}},
		{[]int{-1}, []int{-1}}, {[]int{5, -1, 0, -2}, []int{-2, -1, 0, 5}}, {[]int{49, 50, 49}, []int{49, 50}}, {[]int{10, 9, 100, 1000, 99}, []int{9, 10, 99, 100, 1000}},
		{[]int{math.MaxInt, 0, math.MinInt}, []int{math.MinInt, 0, math.MaxInt}}, {[]int{math.MinInt, math.MaxInt, math.MinInt, math.MaxInt}, []int{math.MinInt, math.MaxInt}},
	} {
		checkTouched(t, writesAt(c.places...), c.want)
	}
	// The values do not matter, not even those that are equal.
	checkTouched(t, []impl.Write{{At: 3, Value: 5}, {At: 1, Value: 5}, {At: 3, Value: 6}, {At: 2, Value: -9}, {At: 2, Value: -9}}, []int{1, 2, 3})
}

func TestTouchedWordsOfManyLists(t *testing.T) {
	lists := append(variedWrites(49), variedWrites(4)...)
	up, down := []impl.Write{}, []impl.Write{}
	for at := -60; at < 60; at++ {
		up, down = append(up, impl.Write{At: at}), append(down, impl.Write{At: -at})
	}
	for _, list := range append(lists, up, down, append(slices.Clone(up), down...), append(slices.Clone(down), up...)) {
		checkTouched(t, list, wantedTouched(list))
	}
}

func TestWriteResultsAreNewMemory(t *testing.T) {
	for i, list := range variedWrites(7) {
		mem, kept := countedMemory(7), slices.Clone(list)
		count := i % (len(list) + 1)
		applied, none, past, touched := impl.ApplyWrites(mem, list, count), impl.ApplyWrites(mem, list, 0), impl.ApplyWrites(mem, list, -1), impl.TouchedWords(list)
		written, unchanged := impl.WriteWord(mem, impl.Write{At: 3, Value: 1}), impl.WriteWord(mem, impl.Write{At: -1})
		for range 2 {
			spoil(impl.ApplyWrites(mem, list, count))
			spoil(impl.ApplyWrites(mem, list, 0))
			spoil(impl.WriteWord(mem, impl.Write{At: 3, Value: 1}))
			spoil(impl.WriteWord(mem, impl.Write{At: 7}))
			spoil(impl.TouchedWords(list))
		}
		if !slices.Equal(mem, countedMemory(7)) || !slices.Equal(list, kept) {
			t.Errorf("changing a result changes %v or %v", mem, list)
		}
		spoil(mem)
		for i := range list {
			list[i] = impl.Write{At: 2, Value: 2}
		}
		want := countedMemory(7)
		if !slices.Equal(applied, wantedApplied(want, kept, count)) || !slices.Equal(none, want) || !slices.Equal(past, want) || !slices.Equal(touched, wantedTouched(kept)) {
			t.Errorf("results share memory with an argument or a later one: %v, %v, %v and %v", applied, none, past, touched)
		}
		if !slices.Equal(unchanged, want) || written[3] != 1 || written[2] != want[2] {
			t.Errorf("results share memory with an argument or a later one: %v and %v", written, unchanged)
		}
	}
}

// Neither the arguments nor what lies behind them is written.
func TestWritesDoNotChangeTheirArguments(t *testing.T) {
	for i, list := range variedWrites(9) {
		mem, all := countedMemory(14), append(slices.Clone(list), writesAt(3, -1, 0)...)
		kept := slices.Clone(all)
		given, part := mem[:9], all[:len(list)]
		for _, count := range append(someCounts(len(list)), i%7) {
			impl.ApplyWrites(given, part, count)
		}
		for at := -2; at < 16; at++ {
			impl.WriteWord(given, impl.Write{At: at, Value: 1})
		}
		impl.TouchedWords(part)
		impl.FirstDiffering(given, mem)
		impl.FirstDiffering(mem[:3], given)
		if !slices.Equal(mem, countedMemory(14)) || !slices.Equal(all, kept) {
			t.Errorf("%v or %v was changed to %v or %v", countedMemory(14), kept, mem, all)
		}
	}
}
