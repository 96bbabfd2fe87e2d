package account_test

import (
	"math"
	"slices"
	"strings"
	"testing"

	"tagcache/account"
	"tagcache/api"
)

const (
	least    = account.MinCost
	greatest = account.MaxCost
	full     = 2 * account.MaxEntries // how many entries may be used at most
)

// noCosts returns numbers that are no cost, such as are one in fewer bits or without a sign too.
func noCosts() []int {
	return []int{least - 1, greatest + 1, 0, 1, -1, -least, -greatest, -70, 2 * greatest, 1<<16 + greatest, 1 << 31, 1<<31 + 70, 1 << 32, 1<<32 + least, 1<<32 + greatest, -1<<32 + least, math.MinInt, math.MinInt + 70, math.MinInt + greatest, math.MaxInt, math.MaxInt - 70}
}

// someCosts returns costs at both ends and between them.
func someCosts() []int {
	return []int{least, least + 1, 70, 2*least - 1, 2 * least, 2*least + 1, 255, 256, 1 << 15, 1<<16 - 1, 1 << 16, 1<<16 + 1, greatest - least, greatest - 1, greatest}
}

// open returns an account with a budget.
func open(t *testing.T, bytes, entries int) *account.Account {
	t.Helper()
	a, e := account.New(bytes, entries)
	if a == nil || e != api.OK {
		t.Fatalf("New(%d, %d) = %v, %d", bytes, entries, a, e)
	}
	return a
}

// with returns an account to which some costs were added.
func with(t *testing.T, bytes, entries int, costs ...int) *account.Account {
	t.Helper()
	a := open(t, bytes, entries)
	each(t, "Add", a.Add, costs)
	return a
}

// each calls a method, which must have no error, with some costs.
func each(t *testing.T, name string, f func(int) api.Errno, costs []int) {
	t.Helper()
	for i, n := range costs {
		if e := f(n); e != api.OK {
			t.Fatalf("%s %d of %v = %d", name, i, costs, e)
		}
	}
}

// checkUsed compares what is used of an account with what it should be.
func checkUsed(t *testing.T, a *account.Account, bytes, entries int) {
	t.Helper()
	if b, n := a.Used(); b != bytes || n != entries {
		t.Fatalf("Used = %d, %d, want %d, %d", b, n, bytes, entries)
	}
}

// checkOver compares by how much a budget is exceeded with what it should be.
func checkOver(t *testing.T, a *account.Account, bytes, entries int) {
	t.Helper()
	if b, n := a.Over(); b != bytes || n != entries {
		t.Fatalf("Over = %d, %d, want %d, %d", b, n, bytes, entries)
	}
}

// checkBudget compares a budget with what it should be.
func checkBudget(t *testing.T, a *account.Account, bytes, entries int) {
	t.Helper()
	if b, n := a.Budget(); b != bytes || n != entries {
		t.Fatalf("Budget = %d, %d, want %d, %d", b, n, bytes, entries)
	}
}

// checkFails checks that what a function returns is an error, and that nothing has changed.
func checkFails(t *testing.T, a *account.Account, name string, want api.Errno, f func() api.Errno) {
	t.Helper()
	bytes, entries := a.Used()
	overBytes, overEntries := a.Over()
	budgetBytes, budgetEntries := a.Budget()
	if e := f(); e != want {
		t.Fatalf("%s = %d, want %d, with %d bytes and %d entries", name, e, want, bytes, entries)
	}
	checkUsed(t, a, bytes, entries)
	checkOver(t, a, overBytes, overEntries)
	checkBudget(t, a, budgetBytes, budgetEntries)
}

// plain is an account after the definition.
type plain struct{ budget, most, bytes, entries int }

// check compares all that an account says of itself with what it should be.
func (p plain) check(t *testing.T, a *account.Account) {
	t.Helper()
	checkUsed(t, a, p.bytes, p.entries)
	checkBudget(t, a, p.budget, p.most)
	overBytes, overEntries := 0, 0
	if p.bytes > p.budget {
		overBytes = p.bytes - p.budget
	}
	if p.entries > p.most {
		overEntries = p.entries - p.most
	}
	checkOver(t, a, overBytes, overEntries)
}

// isCost reports whether a number is a cost.
func isCost(n int) bool { return n > api.Overhead && n <= 67000 }

// others reports whether some entries, which may be none, can cost some bytes together: if these are dealt out as evenly as it goes, each of them has a cost.
func others(bytes, entries int) bool {
	if entries == 0 {
		return bytes == 0
	}
	return isCost(bytes/entries) && isCost((bytes+entries-1)/entries)
}

// add adds a cost.
func (p *plain) add(cost int) api.Errno {
	if !isCost(cost) {
		return api.ErrRange
	}
	if p.entries == 2<<20 {
		return api.ErrFull
	}
	p.bytes += cost
	p.entries++
	return api.OK
}

// change takes a cost away and adds another one.
func (p *plain) change(from, to int) api.Errno {
	if !isCost(from) || !isCost(to) {
		return api.ErrRange
	}
	if p.entries == 0 || p.bytes < from || !others(p.bytes-from, p.entries-1) {
		return api.ErrNone
	}
	p.bytes += to - from
	return api.OK
}

// remove takes a cost away.
func (p *plain) remove(cost int) api.Errno {
	if e := p.change(cost, cost); e != api.OK {
		return e
	}
	p.bytes -= cost
	p.entries--
	return api.OK
}

// numbers returns numbers that look as if they had no rule, but are the same ones in each run.
func numbers(seed uint64) func(below int) int {
	return func(below int) int {
		seed = seed*6364136223846793005 + 1442695040888963407
		return int(seed>>33) % below
	}
}

// eachOrder calls a function with all orders of some costs.
func eachOrder(costs []int, f func([]int)) {
	var goOn func(first, rest []int)
	goOn = func(first, rest []int) {
		if len(rest) == 0 {
			f(first)
		}
		for i, n := range rest {
			goOn(append(slices.Clone(first), n), slices.Concat(rest[:i], rest[i+1:]))
		}
	}
	goOn(nil, costs)
}

// sum returns what some costs are together.
func sum(costs []int) int {
	n := 0
	for _, c := range costs {
		n += c
	}
	return n
}

// someTags returns tags in order, each of some bytes.
func someTags(count, size int) []string {
	var tags []string
	for i := range count {
		tags = append(tags, strings.Repeat(string([]byte{byte('a' + i)}), size))
	}
	return tags
}

// checkCost compares what an entry costs with what it should cost.
func checkCost(t *testing.T, key string, value []byte, tags []string, want int, e api.Errno) {
	t.Helper()
	if n, err := account.Cost(key, value, tags); n != want || err != e {
		t.Fatalf("Cost(%d bytes, %d bytes, %d tags) = %d, %d, want %d, %d", len(key), len(value), len(tags), n, err, want, e)
	}
}

// P13.1, P13.2, P13.3: the examples of the chapter.
func TestExamples(t *testing.T) {
	checkCost(t, "ab", []byte("xyz"), []string{"t", "uv"}, 72, api.OK)
	checkCost(t, "", nil, nil, 0, api.ErrArg)
	checkCost(t, "k", make([]byte, 65537), nil, 0, api.ErrLong)
	checkCost(t, "k", nil, []string{"b", "a"}, 0, api.ErrArg)
	checkCost(t, "k", nil, []string{"a", "a"}, 0, api.ErrArg)

	a := with(t, 200, 2, 70, 80)
	checkOver(t, a, 0, 0)
	each(t, "Add", a.Add, []int{100})
	checkUsed(t, a, 250, 3)
	checkOver(t, a, 50, 1)

	each(t, "Remove", a.Remove, []int{71, 70})
	checkFails(t, a, "Change(80, 90)", api.ErrNone, func() api.Errno { return a.Change(80, 90) })
	checkUsed(t, a, 109, 1)
	checkOver(t, a, 0, 0)
	if !a.Fits(200) || a.Fits(201) || a.Fits(64) {
		t.Errorf("Fits = %t, %t, %t", a.Fits(200), a.Fits(201), a.Fits(64))
	}

	if e := a.Change(109, 65); e != api.OK {
		t.Errorf("Change(109, 65) = %d", e)
	}
	for i, x := range []struct {
		f    func(int) api.Errno
		cost int
		want api.Errno
	}{{a.Remove, 66, api.ErrNone}, {a.Remove, 65, api.OK}, {a.Remove, 65, api.ErrNone}, {a.Add, 64, api.ErrRange}} {
		if e := x.f(x.cost); e != x.want {
			t.Errorf("case %d: %d, want %d", i, e, x.want)
		}
	}
	checkNoNew(t, 0, 1)
	checkNoNew(t, 1, 1048577)
}

// P13.1: each byte of the key, of the value and of each tag counts, and nothing else does.
func TestCost(t *testing.T) {
	for key := 1; key <= api.MaxKey; key++ {
		for _, value := range []int{0, 1, 2, 255, 256, api.MaxValue - 1, api.MaxValue} {
			checkCost(t, strings.Repeat("k", key), make([]byte, value), nil, 64+key+value, api.OK)
		}
	}
	for count := range api.MaxTags + 1 {
		for size := 1; size <= api.MaxTag; size++ {
			checkCost(t, "key", []byte("value"), someTags(count, size), 64+3+5+count*size, api.OK)
		}
	}
	for value := 0; value <= api.MaxValue; value += 997 {
		checkCost(t, "k/", make([]byte, value), []string{"a", "aa", "ab", "b"}, 64+2+value+6, api.OK)
	}
}

// P13.1, P13.4: the least and the greatest cost of an entry.
func TestCostEnds(t *testing.T) {
	if account.MinCost != 65 || account.MaxCost != 67000 || account.MaxBytes != 1<<40 || account.MaxEntries != 1<<20 {
		t.Errorf("the limits are %d, %d, %d, %d", account.MinCost, account.MaxCost, account.MaxBytes, account.MaxEntries)
	}
	checkCost(t, "k", nil, nil, least, api.OK)
	checkCost(t, "k", []byte{}, []string{}, least, api.OK)
	checkCost(t, strings.Repeat("k", 250), make([]byte, 65536), someTags(16, 64), 66874, api.OK)
}

// P13.1: each byte counts as one, whatever it is, in keys, values and tags.
func TestCostOfAllBytes(t *testing.T) {
	for c := range 256 {
		one := string([]byte{byte(c)})
		checkCost(t, one, nil, nil, 65, api.OK)
		checkCost(t, "k"+one, []byte(one+one), []string{one}, 64+2+2+1, api.OK)
		checkCost(t, one, []byte{0, byte(c), 0}, []string{one, one + one, one + one + one}, 64+1+3+6, api.OK)
	}
	checkCost(t, "ä", []byte("ö€"), []string{"ß", "日本"}, 64+2+5+2+6, api.OK)
}

// P13.1: strings that are no key.
func TestCostOfNoKey(t *testing.T) {
	for _, key := range []string{"", strings.Repeat("k", api.MaxKey+1), strings.Repeat("k", api.MaxKey+2), strings.Repeat("k", 1<<16+5), strings.Repeat("ä", api.MaxKey/2+1)} {
		for _, value := range []int{0, 1, api.MaxValue, api.MaxValue + 1, 1 << 17} {
			for _, tags := range [][]string{nil, {"a"}, {"a", "b"}, {"b", "a"}, {""}, someTags(17, 1)} {
				checkCost(t, key, make([]byte, value), tags, 0, api.ErrArg)
			}
		}
	}
}

// P13.1: lists that are not one of tags in order, with the error in each place.
func TestCostOfNoTags(t *testing.T) {
	wrong := [][]string{{""}, {"", ""}, {strings.Repeat("a", api.MaxTag+1)}, {strings.Repeat("a", 1<<16)}, {"b", "a"}, {"a", "a"}, {"aa", "a"}, {"ab", "aa"}, {"a", "Z"}, {"\xff", "\x00"}, {"ä", "z"}, {"a", "B"}, {"10", "1", "9"}}
	for count := 1; count <= api.MaxTags; count++ {
		for i := range count {
			for _, tag := range []string{"", strings.Repeat("a", api.MaxTag+1), strings.Repeat(string([]byte{byte('a' + i)}), api.MaxTag+1)} {
				tags := someTags(count, 2)
				tags[i] = tag
				wrong = append(wrong, tags)
			}
			if i > 0 {
				same, swapped := someTags(count, 2), someTags(count, 2)
				same[i] = same[i-1]
				swapped[i], swapped[i-1] = swapped[i-1], swapped[i]
				ends := someTags(count, 2)
				ends[0], ends[i] = ends[i], ends[0]
				wrong = append(wrong, same, swapped, ends)
			}
		}
	}
	for count := api.MaxTags + 1; count < 26; count++ {
		same := slices.Repeat([]string{"a"}, count)
		wrong = append(wrong, someTags(count, 1), someTags(count, 64), same, append(someTags(16, 1), same...))
	}
	for _, tags := range wrong {
		for _, value := range []int{0, 5, api.MaxValue, api.MaxValue + 1} {
			checkCost(t, "k", make([]byte, value), tags, 0, api.ErrArg)
		}
	}
	for _, tags := range [][]string{{"a", "aa"}, {"B", "a"}, {"\x00", "\xff"}, {"z", "ä"}, {"1", "10", "9"}, {strings.Repeat("a", 63), strings.Repeat("a", 64)}} {
		checkCost(t, "k", nil, tags, 65+len(strings.Join(tags, "")), api.OK)
	}
}

// P13.1: values that are too long, beside keys and tags that are allowed.
func TestCostOfLongValues(t *testing.T) {
	for _, value := range []int{api.MaxValue + 1, api.MaxValue + 2, 2 * api.MaxValue, 1<<20 + 5} {
		for _, key := range []string{"k", strings.Repeat("k", api.MaxKey)} {
			for _, tags := range [][]string{nil, {"a"}, someTags(16, 64)} {
				checkCost(t, key, make([]byte, value), tags, 0, api.ErrLong)
			}
		}
	}
}

// P13.1: what is handed over stays as it is, also what lies behind it in memory.
func TestCostChangesNothing(t *testing.T) {
	for _, list := range [][]string{{"a", "b", "c", "d"}, {"d", "c", "b", "a"}, {"a", "a", "b", ""}} {
		for size := range len(list) + 1 {
			tags, value := slices.Clone(list), []byte("value")
			account.Cost("k", value[:3], tags[:size])
			if !slices.Equal(tags, list) || string(value) != "value" {
				t.Errorf("%v and %q have become %v and %q", list, "value", tags, value)
			}
		}
	}
}

// P13.4: what Cost returns is a cost, which can be added, changed and removed.
func TestCostIsCost(t *testing.T) {
	a := open(t, account.MaxBytes, account.MaxEntries)
	for _, key := range []int{1, 2, 249, 250} {
		for _, value := range []int{0, 1, 65535, 65536} {
			for _, count := range []int{0, 1, 15, 16} {
				for _, size := range []int{1, 2, 63, 64} {
					n, e := account.Cost(strings.Repeat("k", key), make([]byte, value), someTags(count, size))
					if e != api.OK || !a.Fits(n) {
						t.Fatalf("Cost = %d, %d, Fits = %t", n, e, a.Fits(n))
					}
					each(t, "Add", a.Add, []int{n})
					checkUsed(t, a, n, 1)
					if e := a.Change(n, n); e != api.OK {
						t.Fatalf("Change(%d, %d) = %d", n, n, e)
					}
					each(t, "Remove", a.Remove, []int{n})
					checkUsed(t, a, 0, 0)
				}
			}
		}
	}
}

// checkNoNew checks that a budget is not allowed.
func checkNoNew(t *testing.T, bytes, entries int) {
	t.Helper()
	if a, e := account.New(bytes, entries); a != nil || e != api.ErrArg {
		t.Errorf("New(%d, %d) = %v, %d", bytes, entries, a, e)
	}
}

// P13.2, P13.3: budgets around both ends of what is allowed, and numbers that are allowed in fewer bits.
func TestNew(t *testing.T) {
	bytes := []int{1, 2, 64, 65, 66999, 67000, 67001, 1<<31 - 1, 1 << 31, 1<<31 + 1, 1 << 32, 1<<32 + 1, 1<<40 - 1, 1 << 40}
	entries := []int{1, 2, 3, 255, 256, 1 << 16, 1<<16 + 1, 1<<20 - 1, 1 << 20}
	noBytes := []int{0, -1, -2, -65, 1<<40 + 1, 1<<40 + 2, 1 << 41, 1<<41 + 5, 1 << 62, math.MaxInt, math.MinInt, math.MinInt + 1, math.MinInt + 1<<40, -1 << 40, -1<<32 + 5}
	noEntries := []int{0, -1, -2, 1<<20 + 1, 1<<20 + 2, 1 << 21, 1 << 32, 1<<32 + 5, 1 << 40, 1 << 62, math.MaxInt, math.MinInt, math.MinInt + 1, -1 << 20, -1<<32 + 5}
	for _, b := range bytes {
		for _, n := range entries {
			a := open(t, b, n)
			plain{budget: b, most: n}.check(t, a)
			each(t, "Add", a.Add, []int{70, greatest})
			plain{budget: b, most: n, bytes: 70 + greatest, entries: 2}.check(t, a)
		}
		for _, n := range noEntries {
			checkNoNew(t, b, n)
		}
	}
	for _, b := range noBytes {
		for _, n := range append(noEntries, entries...) {
			checkNoNew(t, b, n)
		}
	}
}

// P13.2: a new account has nothing to take away, and accounts are independent of each other.
func TestNewIsEmpty(t *testing.T) {
	for range 3 {
		a, b := open(t, 200, 2), open(t, 200, 2)
		for _, n := range someCosts() {
			checkFails(t, a, "Remove", api.ErrNone, func() api.Errno { return a.Remove(n) })
			for _, m := range someCosts() {
				checkFails(t, a, "Change", api.ErrNone, func() api.Errno { return a.Change(n, m) })
			}
		}
		each(t, "Add", a.Add, []int{300, 400, 500})
		plain{200, 2, 1200, 3}.check(t, a)
		plain{200, 2, 0, 0}.check(t, b)
	}
}

// P13.2: numbers that are no cost, in accounts without entries, with some and within or above the budget.
func TestNoCosts(t *testing.T) {
	for _, costs := range [][]int{nil, {70}, {least, least}, {greatest, greatest, greatest}, {100, 200, 300, 400}} {
		for _, budget := range []int{1, 200, account.MaxBytes} {
			a := with(t, budget, 2, costs...)
			for _, n := range noCosts() {
				checkFails(t, a, "Add", api.ErrRange, func() api.Errno { return a.Add(n) })
				checkFails(t, a, "Remove", api.ErrRange, func() api.Errno { return a.Remove(n) })
				for _, m := range slices.Concat(someCosts(), noCosts(), costs) {
					checkFails(t, a, "Change to it", api.ErrRange, func() api.Errno { return a.Change(m, n) })
					checkFails(t, a, "Change from it", api.ErrRange, func() api.Errno { return a.Change(n, m) })
				}
			}
		}
	}
}

// P13.2, P13.3: costs are added, within the budget and above it.
func TestAdd(t *testing.T) {
	for _, budget := range []plain{{1, 1, 0, 0}, {1000, 3, 0, 0}, {greatest, 2, 0, 0}, {account.MaxBytes, account.MaxEntries, 0, 0}} {
		for _, n := range someCosts() {
			for _, m := range someCosts() {
				a, p := open(t, budget.budget, budget.most), budget
				for _, cost := range []int{n, m, n, m, m} {
					each(t, "Add", a.Add, []int{cost})
					p.bytes += cost
					p.entries++
					p.check(t, a)
				}
			}
		}
	}
}

// P13.3: each budget is exceeded by itself, from the first byte and the first entry above it on.
func TestOver(t *testing.T) {
	for _, costs := range [][]int{{65}, {100, 200}, {greatest, greatest, greatest}, {65, 66, 67, 68, 69}} {
		bytes, entries := sum(costs), len(costs)
		for over := -64; over <= 64; over++ {
			for more := range entries {
				a := with(t, bytes-over, entries-more, costs...)
				checkOver(t, a, max(over, 0), more)
				plain{bytes - over, entries - more, bytes, entries}.check(t, a)
			}
			a := with(t, bytes-over, account.MaxEntries, costs...)
			checkOver(t, a, max(over, 0), 0)
		}
		checkOver(t, with(t, account.MaxBytes, 1, costs...), 0, entries-1)
		checkOver(t, with(t, 1, account.MaxEntries, costs...), bytes-1, 0)
	}
}

// P13.3: what exceeds a budget becomes less with what is taken away, and more with what is added or becomes greater.
func TestOverGoesWithUsed(t *testing.T) {
	a := with(t, 200, 2, 100, 100)
	checkOver(t, a, 0, 0)
	each(t, "Add", a.Add, []int{65, 65})
	checkOver(t, a, 130, 2)
	if e := a.Change(65, 165); e != api.OK {
		t.Errorf("Change(65, 165) = %d", e)
	}
	checkOver(t, a, 230, 2)
	each(t, "Remove", a.Remove, []int{100})
	checkOver(t, a, 130, 1)
	each(t, "Remove", a.Remove, []int{100})
	checkOver(t, a, 30, 0)
	if e := a.Change(165, 135); e != api.OK {
		t.Errorf("Change(165, 135) = %d", e)
	}
	checkOver(t, a, 0, 0)
	checkUsed(t, a, 200, 2)
}

// P13.3: a cost fits that is at most the budget of bytes, whatever the budget of entries is and whatever is used.
func TestFits(t *testing.T) {
	for _, budget := range []int{1, 2, 63, 64, 65, 66, 200, 1<<16 - 1, 1 << 16, 66999, 67000, 67001, 1 << 20, 1 << 31, 1 << 32, 1<<32 + 70, 1<<40 - 1, 1 << 40} {
		for _, entries := range []int{1, 2, 100, account.MaxEntries} {
			for _, costs := range [][]int{nil, {65}, {100, 200, 300}, {greatest, greatest}} {
				a := with(t, budget, entries, costs...)
				for _, n := range slices.Concat(someCosts(), []int{budget - 1, budget, budget + 1, 2 * budget, 1<<32 + budget}) {
					if want := n >= 65 && n <= 67000 && n <= budget; a.Fits(n) != want {
						t.Fatalf("budget %d: Fits(%d) = %t", budget, n, !want)
					}
				}
				for _, n := range noCosts() {
					if a.Fits(n) {
						t.Fatalf("budget %d: Fits(%d) = true", budget, n)
					}
				}
				plain{budget, entries, sum(costs), len(costs)}.check(t, a)
			}
		}
	}
}

// P13.3: Fits for each number around the costs.
func TestFitsEach(t *testing.T) {
	for _, budget := range []int{1, 65, 1000, 67000, 1 << 40} {
		a := open(t, budget, 1)
		for n := -100; n < greatest+100; n++ {
			if want := n > 64 && n < 67001 && n <= budget; a.Fits(n) != want {
				t.Fatalf("budget %d: Fits(%d) = %t", budget, n, !want)
			}
		}
	}
}

// P13.2, P13.4: what was added can be taken away in each order, until nothing is left.
func TestRemoveInAllOrders(t *testing.T) {
	costs := []int{least, least, 66, 200, greatest, 1 << 16}
	eachOrder(costs, func(order []int) {
		a := with(t, 500, 3, costs...)
		for i, n := range order {
			each(t, "Remove", a.Remove, []int{n})
			plain{500, 3, sum(order[i+1:]), len(order) - i - 1}.check(t, a)
		}
		checkFails(t, a, "Remove", api.ErrNone, func() api.Errno { return a.Remove(least) })
	})
}

// P13.2: each cost is taken away, or changed to another one, exactly if the other entries may cost the rest together.
func TestRemoveAndChangeEach(t *testing.T) {
	for _, costs := range [][]int{nil, {65}, {66}, {300}, {greatest}, {65, 65}, {65, 66}, {65, 300}, {300, 400}, {65, greatest}, {greatest, greatest}, {greatest - 1, greatest}, {65, 65, 65}, {65, 66, 67}, {greatest, greatest, greatest - 10}, {65, greatest, greatest}, {65, 65, greatest}, {300, 300, 300, 300}} {
		a := with(t, 1000, 2, costs...)
		for n := 60; n <= greatest+5; n++ {
			before := plain{1000, 2, sum(costs), len(costs)}
			p, c := before, a
			want := p.remove(n)
			if want == api.OK {
				c = a.Copy()
			}
			if e := c.Remove(n); e != want {
				t.Fatalf("%v: Remove(%d) = %d, want %d", costs, n, e, want)
			}
			p.check(t, c)
			p = before
			want = p.change(n, 777)
			if want == api.OK {
				c = a.Copy()
			}
			if e := c.Change(n, 777); e != want {
				t.Fatalf("%v: Change(%d, 777) = %d, want %d", costs, n, e, want)
			}
			p.check(t, c)
		}
	}
}

// P13.2: the ends of what can be taken away, with numbers that are written out.
func TestRemoveEnds(t *testing.T) {
	for i, x := range []struct {
		costs []int
		cost  int
		want  api.Errno
	}{
		{[]int{65}, 65, api.OK}, {[]int{65}, 66, api.ErrNone}, {[]int{66}, 65, api.ErrNone}, {[]int{67000}, 66999, api.ErrNone}, {[]int{67000}, 67000, api.OK},
		{[]int{70, 80}, 65, api.OK}, {[]int{70, 80}, 85, api.OK}, {[]int{70, 80}, 86, api.ErrNone}, {[]int{70, 80}, 149, api.ErrNone}, {[]int{70, 80}, 150, api.ErrNone}, {[]int{70, 80}, 151, api.ErrNone},
		{[]int{67000, 70}, 69, api.ErrNone}, {[]int{67000, 70}, 70, api.OK}, {[]int{67000, 70}, 66999, api.OK}, {[]int{67000, 70}, 67000, api.OK},
		{[]int{67000, 67000, 70}, 69, api.ErrNone}, {[]int{67000, 67000, 70}, 70, api.OK}, {[]int{67000, 66999, 70}, 69, api.OK},
		{[]int{65, 65, 100}, 100, api.OK}, {[]int{65, 65, 100}, 101, api.ErrNone}, {[]int{65, 66, 100}, 101, api.OK},
	} {
		a := with(t, 100, 1, x.costs...)
		if x.want != api.OK {
			checkFails(t, a, "Remove", x.want, func() api.Errno { return a.Remove(x.cost) })
			checkFails(t, a, "Change", x.want, func() api.Errno { return a.Change(x.cost, 65) })
			checkFails(t, a, "Change", x.want, func() api.Errno { return a.Change(x.cost, 67000) })
			continue
		}
		bytes, entries := sum(x.costs), len(x.costs)
		c := a.Copy()
		if e := a.Remove(x.cost); e != api.OK {
			t.Fatalf("case %d: %d", i, e)
		}
		checkUsed(t, a, bytes-x.cost, entries-1)
		for _, to := range []int{65, 70, 67000, x.cost} {
			d := c.Copy()
			if e := d.Change(x.cost, to); e != api.OK {
				t.Fatalf("case %d: %d", i, e)
			}
			checkUsed(t, d, bytes-x.cost+to, entries)
		}
	}
}

// P13.2: whatever can be taken away is what some list of costs has in it, which leads to the same account.
func TestRemoveIsOfSomeList(t *testing.T) {
	for _, costs := range [][]int{{300}, {65, 300}, {70, 80, 100}, {greatest, greatest, 100}, {65, 65, 65, 400}, {greatest, 65, greatest, 65}} {
		bytes, rest := sum(costs), len(costs)-1
		for n := least; n <= greatest; n += 7 {
			a := with(t, 1000, 2, costs...)
			if a.Remove(n) != api.OK {
				continue
			}
			b := with(t, 1000, 2, n)
			for i := range rest { // the others share the rest as evenly as it goes
				each(t, "Add", b.Add, []int{(bytes-n)*(i+1)/rest - (bytes-n)*i/rest})
			}
			checkUsed(t, b, bytes, len(costs))
			each(t, "Remove", b.Remove, []int{n})
			bytesLeft, entriesLeft := a.Used()
			checkUsed(t, b, bytesLeft, entriesLeft)
		}
	}
}

// P13.2: a change counts what the cost was and what it becomes, within the budget and above it; the number of entries stays.
func TestChange(t *testing.T) {
	for _, from := range someCosts() {
		for _, to := range someCosts() {
			for _, others := range [][]int{nil, {65}, {100, 200}, {greatest, greatest}} {
				a := with(t, 500, 2, append([]int{from}, others...)...)
				for range 3 {
					if e := a.Change(from, to); e != api.OK {
						t.Fatalf("Change(%d, %d) = %d beside %v", from, to, e, others)
					}
					plain{500, 2, to + sum(others), 1 + len(others)}.check(t, a)
					if e := a.Change(to, from); e != api.OK {
						t.Fatalf("Change(%d, %d) = %d beside %v", to, from, e, others)
					}
					plain{500, 2, from + sum(others), 1 + len(others)}.check(t, a)
				}
			}
		}
	}
}

// P13.2, P13.4: adding and removing the same cost, or changing one to itself, leaves everything as it was.
func TestToAndFro(t *testing.T) {
	for _, costs := range [][]int{nil, {65}, {greatest}, {70, 80, 100}, {65, 65, 65, greatest}} {
		a := with(t, 200, 2, costs...)
		want := plain{200, 2, sum(costs), len(costs)}
		for _, n := range append(someCosts(), costs...) {
			for range 3 {
				each(t, "Add", a.Add, []int{n})
				if e := a.Change(n, n); e != api.OK {
					t.Fatalf("%v: Change(%d, %d) = %d", costs, n, n, e)
				}
				checkUsed(t, a, want.bytes+n, want.entries+1)
				each(t, "Remove", a.Remove, []int{n})
				want.check(t, a)
			}
		}
		for _, n := range costs {
			if e := a.Change(n, n); e != api.OK {
				t.Fatalf("%v: Change(%d, %d) = %d", costs, n, n, e)
			}
			want.check(t, a)
		}
	}
}

// P13.2, P13.3: as many entries as may be used, with the greatest cost and with the least one.
func TestFull(t *testing.T) {
	for _, cost := range []int{greatest, least, 1000} {
		a := open(t, account.MaxBytes, account.MaxEntries)
		for i := range full {
			if e := a.Add(cost); e != api.OK {
				t.Fatalf("Add %d = %d", i, e)
			}
			if i&(i+1) == 0 || i == full-2 {
				plain{account.MaxBytes, account.MaxEntries, (i + 1) * cost, i + 1}.check(t, a)
			}
		}
		want := plain{account.MaxBytes, account.MaxEntries, full * cost, full}
		want.check(t, a)
		checkFull(t, a, cost)
		want.check(t, a)
		checkOver(t, a, 0, full/2)
		b := a.Copy()
		each(t, "Remove", a.Remove, []int{cost})
		checkUsed(t, a, (full-1)*cost, full-1)
		checkFull(t, b, cost)
		each(t, "Add", a.Add, []int{cost})
		checkFull(t, a, cost)
		for i := range full {
			if e := a.Remove(cost); e != api.OK {
				t.Fatalf("Remove %d = %d", i, e)
			}
		}
		checkUsed(t, a, 0, 0)
		want.check(t, b)
	}
}

// checkFull checks an account with as many entries as may be used, which have one cost: none can be added, but they can be changed.
func checkFull(t *testing.T, a *account.Account, cost int) {
	t.Helper()
	for _, n := range someCosts() {
		checkFails(t, a, "Add", api.ErrFull, func() api.Errno { return a.Add(n) })
	}
	for _, n := range noCosts() {
		checkFails(t, a, "Add", api.ErrRange, func() api.Errno { return a.Add(n) })
		checkFails(t, a, "Change", api.ErrRange, func() api.Errno { return a.Change(cost, n) })
	}
	bytes, entries := a.Used()
	for _, n := range someCosts() {
		if e := a.Change(cost, n); e != api.OK {
			t.Fatalf("Change(%d, %d) = %d", cost, n, e)
		}
		checkUsed(t, a, bytes-cost+n, entries)
		if e := a.Change(n, cost); e != api.OK {
			t.Fatalf("Change(%d, %d) = %d", n, cost, e)
		}
	}
	checkUsed(t, a, bytes, entries)
}

// P13.2, P13.3: both budgets at their greatest are exceeded by what is added above them.
func TestGreatBudgetsAreExceeded(t *testing.T) {
	a := open(t, account.MaxBytes, account.MaxEntries)
	for range account.MaxEntries {
		if e := a.Add(greatest); e != api.OK {
			t.Fatalf("Add = %d", e)
		}
	}
	checkOver(t, a, 0, 0)
	each(t, "Add", a.Add, []int{65})
	checkOver(t, a, 0, 1)
	b := open(t, 1<<32, 1)
	for i := range 1 << 17 {
		if e := b.Add(1 << 15); e != api.OK {
			t.Fatalf("Add %d = %d", i, e)
		}
	}
	plain{1 << 32, 1, 1 << 32, 1 << 17}.check(t, b)
	each(t, "Add", b.Add, []int{65})
	checkOver(t, b, 65, 1<<17)
}

// P13.2, P13.3: nil and zero accounts, whatever the arguments are.
func TestNoAccount(t *testing.T) {
	var none *account.Account
	for i, a := range []*account.Account{none, {}} {
		for range 2 {
			for _, n := range append(noCosts(), someCosts()...) {
				if e, f := a.Add(n), a.Remove(n); e != api.ErrNil || f != api.ErrNil || a.Fits(n) {
					t.Errorf("case %d: Add(%d) = %d, Remove = %d, Fits = %t", i, n, e, f, a.Fits(n))
				}
				for _, m := range append(noCosts(), someCosts()...) {
					if e := a.Change(n, m); e != api.ErrNil {
						t.Errorf("case %d: Change(%d, %d) = %d", i, n, m, e)
					}
				}
			}
			plain{}.check(t, a)
			if a.Copy() != nil {
				t.Errorf("case %d: there is a copy", i)
			}
		}
	}
}

// P13.3: a copy has the budget and what is used, and goes on independently, as the account itself does.
func TestCopy(t *testing.T) {
	for _, costs := range [][]int{nil, {65}, {70, 80, 100}, {greatest, greatest}} {
		a := with(t, 200, 2, costs...)
		b := a.Copy()
		if b == nil || a == b {
			t.Fatalf("%v: Copy = %p of %p", costs, b, a)
		}
		want := plain{200, 2, sum(costs), len(costs)}
		want.check(t, b)
		each(t, "Add", b.Add, []int{300, 400})
		want.check(t, a)
		plain{200, 2, want.bytes + 700, want.entries + 2}.check(t, b)
		each(t, "Add", a.Add, []int{1000})
		plain{200, 2, want.bytes + 700, want.entries + 2}.check(t, b)
		if e := a.Change(1000, 65); e != api.OK {
			t.Fatalf("Change = %d", e)
		}
		each(t, "Remove", b.Remove, []int{400, 300})
		want.check(t, b)
		plain{200, 2, want.bytes + 65, want.entries + 1}.check(t, a)
		for _, n := range []int{64, 65, 200, 201} {
			if a.Fits(n) != b.Fits(n) {
				t.Errorf("Fits(%d) = %t and %t", n, a.Fits(n), b.Fits(n))
			}
		}
	}
}

// P13.3: copies of copies, which go on in turn.
func TestCopiesInTurn(t *testing.T) {
	next := numbers(3)
	accounts, plains := []*account.Account{open(t, 1000, 5)}, []plain{{1000, 5, 0, 0}}
	for range 4000 {
		i := next(len(accounts))
		step(t, accounts[i], &plains[i], next)
		if next(10) == 0 {
			accounts, plains = append(accounts, accounts[i].Copy()), append(plains, plains[i])
		}
		if len(accounts) > 8 {
			accounts, plains = accounts[1:], plains[1:]
		}
		for j, a := range accounts {
			plains[j].check(t, a)
		}
	}
}

// step does something with an account and with one after the definition, and compares what comes out.
func step(t *testing.T, a *account.Account, p *plain, next func(int) int) {
	t.Helper()
	costs := []int{least - 1, least, least + 1, 70, 2 * least, 200, greatest - 1, greatest, greatest + 1, p.bytes, p.bytes - least, p.bytes - greatest}
	n, m := costs[next(len(costs))], costs[next(len(costs))]
	if next(4) == 0 {
		n = least + next(greatest)
	}
	var got, want api.Errno
	switch next(3) {
	case 0:
		got, want = a.Add(n), p.add(n)
	case 1:
		got, want = a.Remove(n), p.remove(n)
	default:
		got, want = a.Change(n, m), p.change(n, m)
	}
	if got != want {
		t.Fatalf("step with %d and %d = %d, want %d: %v", n, m, got, want, *p)
	}
}

// P13.2, P13.3, P13.4: long runs after the definition.
func TestLongRuns(t *testing.T) {
	for seed := range uint64(20) {
		next := numbers(seed)
		budget, most := 1+next(300000), 1+next(10)
		a, p := open(t, budget, most), plain{budget, most, 0, 0}
		for range 5000 {
			step(t, a, &p, next)
			p.check(t, a)
		}
	}
}

// P13.2, P13.3: all ways of up to four steps with some numbers after the definition, going on with copies.
func TestAfterDefinition(t *testing.T) {
	costs := []int{64, 65, 66, 130, 66999, 67000, 67001}
	var goOn func(a *account.Account, p plain, left int)
	goOn = func(a *account.Account, p plain, left int) {
		p.check(t, a)
		if left == 0 {
			return
		}
		try := func(name string, f func(*account.Account, *plain) (api.Errno, api.Errno)) {
			b, q := a.Copy(), p
			if got, want := f(b, &q); got != want {
				t.Fatalf("%s = %d, want %d: %v", name, got, want, p)
			}
			q.check(t, b)
			p.check(t, a)
			if q != p {
				goOn(b, q, left-1)
			}
		}
		for _, n := range costs {
			try("Add", func(b *account.Account, q *plain) (api.Errno, api.Errno) { return b.Add(n), q.add(n) })
			try("Remove", func(b *account.Account, q *plain) (api.Errno, api.Errno) { return b.Remove(n), q.remove(n) })
			for _, m := range costs {
				try("Change", func(b *account.Account, q *plain) (api.Errno, api.Errno) { return b.Change(n, m), q.change(n, m) })
			}
		}
	}
	goOn(open(t, 131, 1), plain{131, 1, 0, 0}, 4)
}

// P13.4: what is used is the sum of what was added and not taken away, whatever was changed in between.
func TestSum(t *testing.T) {
	for seed := range uint64(10) {
		next := numbers(seed)
		a := open(t, 100000, 20)
		var costs []int
		for range 3000 {
			cost := least + next(greatest-least+1)
			switch i := next(max(1, len(costs))); {
			case len(costs) == 0 || next(3) == 0:
				each(t, "Add", a.Add, []int{cost})
				costs = append(costs, cost)
			case next(2) == 0:
				each(t, "Remove", a.Remove, []int{costs[i]})
				costs = slices.Delete(costs, i, i+1)
			default:
				if e := a.Change(costs[i], cost); e != api.OK {
					t.Fatalf("Change(%d, %d) = %d", costs[i], cost, e)
				}
				costs[i] = cost
			}
			plain{100000, 20, sum(costs), len(costs)}.check(t, a)
		}
		each(t, "Remove", a.Remove, costs)
		checkUsed(t, a, 0, 0)
	}
}

// P13.4: as long as what exceeds the budget is taken away again, what entries cost is within it (P0.5).
func TestWithinBudget(t *testing.T) {
	next := numbers(5)
	a := open(t, 200000, 7)
	var costs []int
	for range 5000 {
		cost := least + next(greatest-least+1)
		each(t, "Add", a.Add, []int{cost})
		costs = append(costs, cost)
		for over(a) {
			each(t, "Remove", a.Remove, costs[:1])
			costs = costs[1:]
		}
		if bytes, entries := a.Used(); bytes > 200000 || entries > 7 || bytes != sum(costs) || entries != len(costs) {
			t.Fatalf("Used = %d, %d with %v", bytes, entries, costs)
		}
	}
}

// over reports whether a budget is exceeded.
func over(a *account.Account) bool {
	bytes, entries := a.Over()
	return bytes > 0 || entries > 0
}

// P1, P13.1, P13.2: calls with equal arguments on equal accounts have equal results, whatever was done before.
func TestAgain(t *testing.T) {
	var first []int
	for round := range 3 {
		next := numbers(11)
		a := open(t, 5000, 3)
		var all []int
		for range 500 {
			n, m := 60+next(400), 60+next(400)
			bytes, entries := a.Used()
			cost, e := account.Cost(strings.Repeat("k", next(260)), make([]byte, next(70000)), someTags(next(18), 1+next(3)))
			all = append(all, int(a.Add(n)), int(a.Change(n, m)), int(a.Remove(n+m)), bytes, entries, cost, int(e))
		}
		if round > 0 && !slices.Equal(all, first) {
			t.Fatalf("round %d has other results", round)
		}
		first = all
	}
}
