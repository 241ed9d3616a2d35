package caps

import (
	"fmt"
	"math"
	"math/big"
	"math/rand"
	"slices"
	"strings"
	"testing"

	"veneer/api"
)

// rightIds are the numbers that tenants may have, wrongIds some that none has; so are rightRoots and wrongRoots; rightQuotas and wrongQuotas some of each.

func rightIds() []int { return []int{1, 2, 3, 4, 5, 6, 7, 8} }

func wrongIds() []int {
	return []int{0, 9, 10, -1, -8, 64, 255, 256, 257, 1 << 32, 1<<32 + 1, -1 << 32, math.MaxInt, math.MaxInt - 1, math.MinInt, math.MinInt + 1}
}

func rightRoots() []int { return []int{1, 2, 3, 4, 5, 6} }

func wrongRoots() []int {
	return []int{0, 7, 8, -1, -6, 64, 255, 256, 257, 1 << 32, 1<<32 + 1, -1 << 32, math.MaxInt, math.MaxInt - 1, math.MinInt, math.MinInt + 1}
}

func rightQuotas() []int {
	return []int{0, 1, 2, 99, 100, 1<<31 - 1, 1 << 31, 1 << 32, math.MaxInt - 1, math.MaxInt}
}

func wrongQuotas() []int { return []int{-1, -2, -100, -1 << 32, math.MinInt + 1, math.MinInt} }

func isErr(t *testing.T, what string, e, want api.Errno) {
	t.Helper()
	if e != want {
		t.Errorf("%s = %d, want %d", what, int(e), int(want))
	}
}

func isList(t *testing.T, what string, l []int, want ...int) {
	t.Helper()
	if !slices.Equal(l, want) {
		t.Errorf("%s = %v, want %v", what, l, want)
	}
}

// call is one that changes a table: n is a quota or a root.
type call struct {
	name  string
	id, n int
}

func (c call) String() string { return fmt.Sprintf("%s(%d, %d)", c.name, c.id, c.n) }

func tenant(id, quota int) call { return call{"Tenant", id, quota} }

func give(id, root int) call { return call{"Grant", id, root} }

func take(id, root int) call { return call{"Revoke", id, root} }

func (c call) on(x *Table) api.Errno {
	switch c.name {
	case "Tenant":
		return x.Tenant(c.id, c.n)
	case "Grant":
		return x.Grant(c.id, c.n)
	}
	return x.Revoke(c.id, c.n)
}

// A model of tables: a row of all calls that were not refused, gone through whenever something is asked.
type row []call

// quota is what the call said that let a tenant in.
func (r row) quota(id int) (int, bool) {
	for _, c := range r {
		if c.name == "Tenant" && c.id == id {
			return c.n, true
		}
	}
	return 0, false
}

// may tells whether the last call of a tenant and a root gave it.
func (r row) may(id, root int) bool {
	for _, c := range slices.Backward(r) {
		if c.name != "Tenant" && c.id == id && c.n == root {
			return c.name == "Grant"
		}
	}
	return false
}

func (r row) tenants() []int {
	var l []int
	for _, c := range r {
		if c.name == "Tenant" {
			l = append(l, c.id)
		}
	}
	slices.Sort(l)
	return l
}

func (r row) roots(id int) []int {
	var l []int
	for _, c := range r {
		if c.name == "Grant" && c.id == id && r.may(id, c.n) && !slices.Contains(l, c.n) {
			l = append(l, c.n)
		}
	}
	slices.Sort(l)
	return l
}

// fits is what Fits must answer.
func (r row) fits(id, used, more int) api.Errno {
	quota, isThere := r.quota(id)
	sum := new(big.Int).Add(big.NewInt(int64(used)), big.NewInt(int64(more)))
	switch {
	case !isThere:
		return 9
	case used < 0 || more < 0:
		return 2
	case sum.Cmp(big.NewInt(int64(quota))) > 0:
		return 17
	}
	return 0
}

// plan is what a call must make of a row, and what it must answer: the first of the chapter's faults.
func (c call) plan(r row) (row, api.Errno) {
	_, isThere := r.quota(c.id)
	isTenant := c.name == "Tenant"
	for _, x := range []struct {
		is bool
		e  api.Errno
	}{
		{!slices.Contains(rightIds(), c.id), 2},
		{isTenant && c.n < 0, 2},
		{!isTenant && !slices.Contains(rightRoots(), c.n), 2},
		{isTenant && isThere, 8},
		{!isTenant && !isThere, 9},
	} {
		if x.is {
			return r, x.e
		}
	}
	return append(slices.Clip(r), c), 0
}

// isQuick fails where a table tells of its tenants and their roots anything else than a row has; isTable also of what is no tenant or no root, and of what fits.

func isQuick(t *testing.T, x *Table, r row, why string) {
	t.Helper()
	isList(t, why+": Tenants", x.Tenants(), r.tenants()...)
	for _, id := range rightIds() {
		isTold(t, x, r, id, why)
	}
}

func isTold(t *testing.T, x *Table, r row, id int, why string) {
	t.Helper()
	want, wantThere := r.quota(id)
	if quota, isThere := x.Quota(id); quota != want || isThere != wantThere {
		t.Errorf("%s: Quota(%d) = %d, %v, want %d, %v", why, id, quota, isThere, want, wantThere)
	}
	if l, want := x.Roots(id), r.roots(id); !slices.Equal(l, want) {
		t.Errorf("%s: Roots(%d) = %v, want %v", why, id, l, want)
	}
}

func isTable(t *testing.T, x *Table, r row, why string) {
	t.Helper()
	isQuick(t, x, r, why)
	for _, id := range slices.Concat(rightIds(), wrongIds()) {
		isTold(t, x, r, id, why)
		for _, root := range slices.Concat(rightRoots(), wrongRoots()) {
			if may := x.May(id, root); may != r.may(id, root) {
				t.Errorf("%s: May(%d, %d) = %v", why, id, root, may)
			}
		}
		quota, _ := r.quota(id)
		for _, p := range pairs(quota) {
			if e := x.Fits(id, p[0], p[1]); e != r.fits(id, p[0], p[1]) {
				t.Errorf("%s: Fits(%d, %d, %d) = %d, want %d", why, id, p[0], p[1], int(e), int(r.fits(id, p[0], p[1])))
			}
		}
	}
}

// pairs are what may be used and asked for beside a quota: below 0, 0, the greatest numbers, sums beside the quota, and sums that are no numbers of Go's.
func pairs(quota int) [][2]int {
	l := [][2]int{
		{0, 0}, {-1, 0}, {0, -1}, {-1, -1}, {-1, 1}, {1, -1}, {math.MinInt, 0}, {0, math.MinInt}, {math.MinInt, math.MaxInt}, {math.MaxInt, math.MinInt},
		{math.MinInt, math.MinInt}, {math.MaxInt, 0}, {0, math.MaxInt}, {math.MaxInt, 1}, {1, math.MaxInt}, {math.MaxInt, math.MaxInt}, {math.MaxInt - 1, 1},
		{1, math.MaxInt - 1}, {math.MaxInt - 1, 2}, {1 << 62, 1 << 62}, {1 << 62, 1<<62 - 1}, {-1, math.MaxInt}, {math.MaxInt, -1},
	}
	for _, used := range []int{0, 1, quota / 2, quota - 1, quota} {
		for _, more := range []int{quota - used - 1, quota - used, quota - used + 1} {
			l = append(l, [2]int{used, more}, [2]int{more, used})
		}
	}
	return l
}

// both is a table, and what it must have.
type both struct {
	x *Table
	r row
}

func fresh() *both { return &both{x: New()} }

// run is a table behind these calls, none of which is refused.
func run(t *testing.T, calls ...call) *both {
	t.Helper()
	b := fresh()
	b.must(t, calls...)
	return b
}

// quick does a call, and looks at the answer alone; do also at what the table tells then.

func (b *both) quick(t *testing.T, c call) api.Errno {
	t.Helper()
	next, want := c.plan(b.r)
	e := c.on(b.x)
	isErr(t, fmt.Sprint(c, " behind ", b.r), e, want)
	b.r = next
	return e
}

func (b *both) do(t *testing.T, c call) api.Errno {
	t.Helper()
	e := b.quick(t, c)
	isTable(t, b.x, b.r, c.String())
	return e
}

func (b *both) answers(t *testing.T, want api.Errno, calls ...call) {
	t.Helper()
	for _, c := range calls {
		isErr(t, c.String(), b.do(t, c), want)
	}
}

func (b *both) must(t *testing.T, calls ...call) {
	t.Helper()
	b.answers(t, api.OK, calls...)
}

func (b *both) copied() *both { return &both{x: b.x.Copy(), r: slices.Clone(b.r)} }

// busy is a table with some tenants, one of them without roots, one with all.
func busy(t *testing.T) *both {
	t.Helper()
	b := run(t, tenant(3, 100), tenant(8, 0), tenant(1, math.MaxInt), tenant(5, 7), give(3, 6), give(3, 2), give(1, 2), give(1, 4), take(1, 4), give(8, 1))
	for _, root := range []int{4, 1, 6, 3, 5, 2} {
		b.must(t, give(1, root))
	}
	return b
}

func TestTheExample(t *testing.T) {
	x := New()
	isErr(t, "Tenant(1, 100)", x.Tenant(1, 100), 0)
	isErr(t, "Grant(1, 2)", x.Grant(1, 2), 0)
	if !x.May(1, 2) || x.May(1, 3) {
		t.Error("May(1, 2), May(1, 3) =", x.May(1, 2), x.May(1, 3))
	}
	isErr(t, "Fits(1, 90, 10)", x.Fits(1, 90, 10), 0)
	isErr(t, "Fits(1, 90, 11)", x.Fits(1, 90, 11), 17)
	isErr(t, "Fits(1, 2^63 - 1, 1)", x.Fits(1, 1<<63-1, 1), 17)
}

// P17.1: New, Tenant

func TestNew(t *testing.T) {
	x := New()
	isTable(t, x, nil, "New")
	if len(x.Tenants()) != 0 {
		t.Error("Tenants =", x.Tenants())
	}
	isTable(t, x, nil, "New, asked again")
}

func TestTablesAreApart(t *testing.T) {
	a, b := fresh(), fresh()
	a.must(t, tenant(1, 5), give(1, 1))
	isTable(t, b.x, nil, "another one")
	b.must(t, tenant(1, 6), give(1, 2))
	isTable(t, a.x, a.r, "the first one")
}

func TestTenantOfEachNumber(t *testing.T) {
	for _, id := range rightIds() {
		for _, quota := range rightQuotas() {
			b := run(t, tenant(id, quota))
			isList(t, "Tenants", b.x.Tenants(), id)
			isList(t, "Roots", b.x.Roots(id))
			if q, ok := b.x.Quota(id); q != quota || !ok {
				t.Errorf("Quota(%d) = %d, %v, want %d", id, q, ok, quota)
			}
		}
	}
}

func TestTenantOfNoNumber(t *testing.T) {
	for _, id := range wrongIds() {
		for _, quota := range slices.Concat(rightQuotas(), wrongQuotas()) {
			fresh().answers(t, api.ErrArg, tenant(id, quota))
		}
	}
	b := busy(t)
	for _, id := range wrongIds() {
		b.answers(t, api.ErrArg, tenant(id, 5))
	}
}

func TestTenantOfNoQuota(t *testing.T) {
	for _, quota := range wrongQuotas() {
		for _, id := range rightIds() {
			b := fresh()
			b.answers(t, api.ErrArg, tenant(id, quota))
			b.must(t, tenant(id, 5)) // what was refused took no number
		}
	}
}

func TestTenantIsThere(t *testing.T) {
	for _, id := range rightIds() {
		b := run(t, tenant(id, 100), give(id, 2))
		for _, quota := range rightQuotas() {
			b.answers(t, api.ErrThere, tenant(id, quota))
		}
		for _, quota := range wrongQuotas() {
			b.answers(t, api.ErrArg, tenant(id, quota)) // the arguments come ahead of what is kept
		}
		if q, ok := b.x.Quota(id); q != 100 || !ok || !b.x.May(id, 2) {
			t.Errorf("Quota(%d) = %d, %v, May(%d, 2) = %v", id, q, ok, id, b.x.May(id, 2))
		}
	}
	b := run(t, tenant(2, 0))
	b.answers(t, api.ErrThere, tenant(2, 0), tenant(2, 1)) // a quota of 0 is one
}

func TestAllTenants(t *testing.T) {
	b := fresh()
	for i, id := range rightIds() {
		b.must(t, tenant(id, 10*i))
	}
	for _, id := range rightIds() {
		b.answers(t, api.ErrThere, tenant(id, 5))
	}
	b.answers(t, api.ErrArg, tenant(9, 5), tenant(0, 5))
	isList(t, "Tenants", b.x.Tenants(), 1, 2, 3, 4, 5, 6, 7, 8)
}

// P17.2: Grant, Revoke, May

func TestGrantAndRevokeOfEach(t *testing.T) {
	for _, id := range rightIds() {
		for _, root := range rightRoots() {
			b := run(t, tenant(id, 5))
			for _, c := range []call{
				take(id, root), take(id, root), // it might not
				give(id, root), give(id, root), // it might
				take(id, root), take(id, root),
				give(id, root), take(id, root), give(id, root),
			} {
				b.must(t, c)
				if may := b.x.May(id, root); may != (c.name == "Grant") {
					t.Errorf("behind %v May = %v", c, may)
				}
			}
			isList(t, "Roots", b.x.Roots(id), root)
		}
	}
}

func TestGrantTwiceIsTakenAwayOnce(t *testing.T) {
	b := run(t, tenant(4, 5), give(4, 3), give(4, 3), give(4, 3), take(4, 3))
	if b.x.May(4, 3) || len(b.x.Roots(4)) > 0 {
		t.Error("May, Roots =", b.x.May(4, 3), b.x.Roots(4))
	}
}

func TestGrantAndRevokeOfAllRoots(t *testing.T) {
	b := run(t, tenant(2, 5), tenant(7, 5))
	for _, root := range rightRoots() {
		b.must(t, give(2, root), give(7, root))
	}
	isList(t, "Roots(2)", b.x.Roots(2), 1, 2, 3, 4, 5, 6)
	for i, root := range rightRoots() {
		b.must(t, take(2, root))
		isList(t, "Roots(2)", b.x.Roots(2), rightRoots()[i+1:]...)
	}
	isList(t, "Roots(7)", b.x.Roots(7), 1, 2, 3, 4, 5, 6)
}

func TestGrantAndRevokeOfNobody(t *testing.T) {
	for _, id := range rightIds() {
		b := fresh()
		for _, other := range rightIds() {
			if other != id {
				b.must(t, tenant(other, 5), give(other, 1))
			}
		}
		for _, root := range rightRoots() {
			b.answers(t, api.ErrNone, give(id, root), take(id, root))
		}
		b.must(t, tenant(id, 5)) // it has none of the roots that it was refused
		isList(t, "Roots", b.x.Roots(id))
	}
}

func TestGrantAndRevokeOfNoNumber(t *testing.T) {
	for _, b := range []*both{fresh(), busy(t)} {
		for _, id := range wrongIds() {
			for _, root := range slices.Concat(rightRoots()[:2], wrongRoots()[:4]) {
				b.answers(t, api.ErrArg, give(id, root), take(id, root))
			}
		}
	}
}

func TestGrantAndRevokeOfNoRoot(t *testing.T) {
	b := busy(t)
	for _, root := range wrongRoots() {
		for _, id := range []int{1, 2, 3, 5, 8} { // there is no 2: the arguments come ahead of what is kept
			b.answers(t, api.ErrArg, give(id, root), take(id, root))
		}
	}
}

func TestMayOfNobody(t *testing.T) {
	b := busy(t)
	for _, id := range slices.Concat(wrongIds(), []int{2, 4, 6, 7}) {
		for _, root := range slices.Concat(rightRoots(), wrongRoots()) {
			if b.x.May(id, root) {
				t.Errorf("May(%d, %d)", id, root)
			}
		}
	}
	for _, root := range wrongRoots() {
		if b.x.May(1, root) { // it may use all that are roots
			t.Errorf("May(1, %d)", root)
		}
	}
}

// P17.3: Quota, Fits

func TestQuota(t *testing.T) {
	b := run(t, tenant(1, 0), tenant(8, math.MaxInt), tenant(4, 1))
	for _, x := range []struct {
		id, quota int
		ok        bool
	}{{1, 0, true}, {8, math.MaxInt, true}, {4, 1, true}, {2, 0, false}, {0, 0, false}, {9, 0, false}, {-1, 0, false}, {math.MaxInt, 0, false}, {math.MinInt, 0, false}} {
		if q, ok := b.x.Quota(x.id); q != x.quota || ok != x.ok {
			t.Errorf("Quota(%d) = %d, %v, want %d, %v", x.id, q, ok, x.quota, x.ok)
		}
	}
}

func TestFitsByHand(t *testing.T) {
	const most = math.MaxInt
	b := run(t, tenant(1, 100), tenant(2, 0), tenant(3, most))
	for _, x := range []struct {
		id, used, more int
		want           api.Errno
	}{
		{1, 0, 0, 0}, {1, 100, 0, 0}, {1, 0, 100, 0}, {1, 99, 1, 0}, {1, 1, 99, 0}, {1, 100, 1, 17}, {1, 101, 0, 17}, {1, 0, 101, 17}, {1, 1, 100, 17},
		{1, most, 1, 17}, {1, 1, most, 17}, {1, most, most, 17}, {1, most, 0, 17}, {1, 0, most, 17}, {1, 1 << 62, 1 << 62, 17}, {1, most, 101, 17},
		{1, -1, 0, 2}, {1, 0, -1, 2}, {1, -1, -1, 2}, {1, -1, 50, 2}, {1, 200, -100, 2}, {1, -100, 200, 2}, {1, most, -1, 2}, {1, math.MinInt, most, 2}, {1, 0, math.MinInt, 2},
		{2, 0, 0, 0}, {2, 0, 1, 17}, {2, 1, 0, 17}, {2, most, most, 17}, {2, 1, -1, 2}, {2, -1, 1, 2},
		{3, 0, 0, 0}, {3, most, 0, 0}, {3, 0, most, 0}, {3, most - 1, 1, 0}, {3, 1, most - 1, 0}, {3, most, 1, 17}, {3, 1, most, 17}, {3, most, most, 17},
		{3, 1 << 62, 1<<62 - 1, 0}, {3, 1 << 62, 1 << 62, 17}, {3, most - 1, 2, 17}, {3, -1, most, 2}, {3, most, -1, 2},
		{4, 0, 0, 9}, {4, -1, 0, 9}, {4, 0, -1, 9}, {4, most, most, 9}, {0, 0, 0, 9}, {9, 0, 0, 9}, {-1, -1, -1, 9}, {most, 1, 1, 9}, {math.MinInt, 1, 1, 9},
	} {
		isErr(t, fmt.Sprintf("Fits(%d, %d, %d)", x.id, x.used, x.more), b.x.Fits(x.id, x.used, x.more), x.want)
	}
	isTable(t, b.x, b.r, "Fits") // what was asked takes nothing of a quota
}

func TestFitsOfSmallNumbers(t *testing.T) {
	for quota := range 12 {
		b := run(t, tenant(6, quota))
		for used := -3; used < 16; used++ {
			for more := -3; more < 16; more++ {
				isErr(t, fmt.Sprintf("of %d Fits(6, %d, %d)", quota, used, more), b.x.Fits(6, used, more), b.r.fits(6, used, more))
			}
		}
	}
}

func TestFitsOfEachQuota(t *testing.T) {
	for _, quota := range rightQuotas() {
		b := run(t, tenant(6, quota))
		for _, used := range slices.Concat(rightQuotas(), wrongQuotas()) {
			for _, more := range slices.Concat(rightQuotas(), wrongQuotas()) {
				isErr(t, fmt.Sprintf("of %d Fits(6, %d, %d)", quota, used, more), b.x.Fits(6, used, more), b.r.fits(6, used, more))
			}
		}
	}
}

// P17.4: Tenants, Roots, Copy

// orders calls f with each order of the numbers from 1 to n.
func orders(n int, f func([]int)) {
	var put func(l []int)
	put = func(l []int) {
		if len(l) == n {
			f(l)
			return
		}
		for i := 1; i <= n; i++ {
			if !slices.Contains(l, i) {
				put(append(slices.Clip(l), i))
			}
		}
	}
	put(nil)
}

func TestTenantsRiseInAllOrders(t *testing.T) {
	orders(8, func(l []int) {
		x := New()
		for _, id := range l[:5] {
			x.Tenant(id, id)
		}
		isList(t, "Tenants", x.Tenants(), slices.Sorted(slices.Values(l[:5]))...)
		for _, id := range l[5:] {
			x.Tenant(id, id)
		}
		isList(t, "Tenants", x.Tenants(), rightIds()...)
	})
}

func TestRootsRiseInAllOrders(t *testing.T) {
	orders(6, func(l []int) {
		b := fresh()
		b.quick(t, tenant(3, 5))
		for i, root := range l {
			b.quick(t, give(3, root))
			isList(t, "Roots", b.x.Roots(3), slices.Sorted(slices.Values(l[:i+1]))...)
		}
		b.quick(t, take(3, l[0]))
		b.quick(t, take(3, l[1]))
		isList(t, "Roots", b.x.Roots(3), slices.Sorted(slices.Values(l[2:]))...)
		b.quick(t, give(3, l[0]))
		isList(t, "Roots", b.x.Roots(3), slices.Sorted(slices.Values(append(slices.Clone(l[2:]), l[0])))...)
	})
}

func TestRootsOfNobody(t *testing.T) {
	b := busy(t)
	for _, id := range slices.Concat(wrongIds(), []int{2, 4, 5, 6, 7}) {
		isList(t, fmt.Sprintf("Roots(%d)", id), b.x.Roots(id))
	}
	isList(t, "Roots(1)", b.x.Roots(1), 1, 2, 3, 4, 5, 6)
	isList(t, "Roots(3)", b.x.Roots(3), 2, 6)
	isList(t, "Roots(8)", b.x.Roots(8), 1)
	isList(t, "Tenants", b.x.Tenants(), 1, 3, 5, 8)
}

func TestCopy(t *testing.T) {
	for _, first := range []*both{fresh(), run(t, tenant(1, 5)), run(t, tenant(1, 5), give(1, 1)), busy(t)} {
		second := first.copied()
		isTable(t, second.x, first.r, "a copy")
		if first.x == second.x {
			t.Fatal("Copy told the same table")
		}
		third := second.copied()
		second.do(t, tenant(2, 9))
		second.do(t, give(1, 3))
		second.do(t, take(3, 2))
		isTable(t, first.x, first.r, "the first, behind changes of its copy")
		first.do(t, tenant(2, 8))
		first.do(t, give(2, 6))
		first.do(t, take(1, 1))
		isTable(t, second.x, second.r, "the copy, behind changes of the first")
		isTable(t, third.x, third.r, "the copy's copy")
		third.do(t, tenant(7, 1))
		third.do(t, give(7, 1))
		isTable(t, first.x, first.r, "the first, behind changes of the copy's copy")
		isTable(t, second.x, second.r, "the copy, behind changes of its copy")
	}
}

// Each call, on the first or on the copy, is one that only the one of the two knows of.
func TestCopyAndEachCall(t *testing.T) {
	for _, c := range []call{tenant(2, 5), give(3, 1), give(5, 5), take(3, 6), take(1, 1), take(8, 1)} {
		first := busy(t)
		second := first.copied()
		first.must(t, c)
		isTable(t, second.x, second.r, "the copy, behind "+c.String())
		first = busy(t)
		second = first.copied()
		second.must(t, c)
		isTable(t, first.x, first.r, "the first, behind its copy's "+c.String())
	}
}

// Rule 1: objects that no call made

func noTables() map[string]*Table {
	return map[string]*Table{"nil": nil, "a plain one": {}, "a new one": new(Table)}
}

func TestNoTable(t *testing.T) {
	for name, x := range noTables() {
		for range 2 { // what is refused leaves nothing behind
			for _, id := range []int{1, 8, 0, 9, -1, math.MaxInt, math.MinInt} {
				for _, n := range []int{1, 6, 0, 7, -1, math.MaxInt, math.MinInt} {
					isErr(t, name+": Tenant", x.Tenant(id, n), 1)
					isErr(t, name+": Grant", x.Grant(id, n), 1)
					isErr(t, name+": Revoke", x.Revoke(id, n), 1)
					isErr(t, name+": Fits", x.Fits(id, n, 0), 1)
					isErr(t, name+": Fits", x.Fits(id, 0, n), 1)
					if x.May(id, n) {
						t.Errorf("%s: May(%d, %d)", name, id, n)
					}
				}
				if q, ok := x.Quota(id); q != 0 || ok {
					t.Errorf("%s: Quota(%d) = %d, %v", name, id, q, ok)
				}
				isList(t, name+": Roots", x.Roots(id))
			}
			isList(t, name+": Tenants", x.Tenants())
			if x.Copy() != nil {
				t.Error(name, "has a copy")
			}
		}
	}
}

// Rule 2: which error comes first

func TestSeveralFaults(t *testing.T) {
	b := run(t, tenant(1, 5), give(1, 1))
	b.answers(t, api.ErrArg, tenant(0, -1), tenant(9, -1), tenant(1, -1), tenant(2, -1), tenant(-1, 5))
	b.answers(t, api.ErrThere, tenant(1, 5), tenant(1, 6), tenant(1, 0))
	for _, f := range []func(id, root int) call{give, take} {
		b.answers(t, api.ErrArg, f(0, 0), f(9, 7), f(2, 0), f(2, 7), f(2, -1), f(0, 1), f(9, 1), f(1, 0), f(1, 7))
		b.answers(t, api.ErrNone, f(2, 1), f(8, 6))
	}
	isErr(t, "Fits of nobody, below 0", b.x.Fits(2, -1, -1), 9)
	isErr(t, "Fits of no number, below 0", b.x.Fits(0, -1, -1), 9)
	isErr(t, "Fits of too much used, and more below 0", b.x.Fits(1, 6, -1), 2)
	isErr(t, "Fits of used below 0, and too much more", b.x.Fits(1, -1, 99), 2)
}

// Rule 5: memory

// spoil writes over a list, and over what lies behind its length.
func spoil(l []int) {
	for i := range l[:cap(l)] {
		l[:cap(l)][i] = -77
	}
}

func TestWhatIsToldIsNobodyElses(t *testing.T) {
	b := busy(t)
	other := b.copied()
	for _, f := range []func() []int{
		b.x.Tenants, func() []int { return b.x.Roots(1) }, func() []int { return b.x.Roots(3) },
		other.x.Tenants, func() []int { return other.x.Roots(1) },
	} {
		kept, spoilt := f(), f()
		want := slices.Clone(kept)
		spoil(spoilt)
		_ = append(spoilt[:0], 5, 4, 3)
		isList(t, "what was told ahead", kept, want...)
		isList(t, "what is told behind", f(), want...)
	}
	isTable(t, b.x, b.r, "behind lists that were spoilt")
	isTable(t, other.x, other.r, "the copy, behind lists that were spoilt")
}

func TestWhatWasToldStays(t *testing.T) {
	b := busy(t)
	ids, roots, none := b.x.Tenants(), b.x.Roots(3), b.x.Roots(2)
	b.must(t, tenant(2, 5), give(2, 1), give(3, 1), take(3, 6))
	isList(t, "Tenants of then", ids, 1, 3, 5, 8)
	isList(t, "Roots(3) of then", roots, 2, 6)
	isList(t, "Roots(2) of then", none)
}

// P17.5: rows of calls for several tenants

// smallCalls are calls of two tenants and of one that is none, with two roots.
func smallCalls() []call {
	l := []call{tenant(0, 5), give(9, 1), tenant(1, -1), give(2, 7)}
	for _, id := range []int{1, 2} {
		l = append(l, tenant(id, 10*id), tenant(id, 0), give(id, 1), give(id, 2), take(id, 1))
	}
	return l
}

// All rows of up to 4 calls: each goes on from a copy of the table behind the row ahead of it, which stays as it was.
func TestAllRows(t *testing.T) {
	tried := 0
	var goOn func(b *both, left int)
	goOn = func(b *both, left int) {
		if left == 0 || t.Failed() {
			return
		}
		for _, c := range smallCalls() {
			next := b.copied()
			next.quick(t, c)
			isQuick(t, next.x, next.r, c.String())
			isQuick(t, b.x, b.r, "what was copied ahead of "+c.String())
			goOn(next, left-1)
			tried++
		}
	}
	goOn(fresh(), 4)
	if tried != 14+14*14+14*14*14+14*14*14*14 && !t.Failed() {
		t.Error("rows:", tried)
	}
}

// anyCall is a call by chance, now and then a wrong one.
func anyCall(chance *rand.Rand) call {
	pick := func(right, wrong []int) int {
		if chance.Intn(12) == 0 {
			right = wrong
		}
		return right[chance.Intn(len(right))]
	}
	id := pick(rightIds(), wrongIds())
	switch chance.Intn(8) {
	case 0:
		return tenant(id, pick(rightQuotas(), wrongQuotas()))
	case 1, 2, 3, 4:
		return give(id, pick(rightRoots(), wrongRoots()))
	}
	return take(id, pick(rightRoots(), wrongRoots()))
}

func anyCalls(chance *rand.Rand, n int) []call {
	var l []call
	for range n {
		l = append(l, anyCall(chance))
	}
	return l
}

func TestRowsByChance(t *testing.T) {
	for seed := range 60 {
		chance := rand.New(rand.NewSource(int64(seed)))
		b := fresh()
		var copies []*both
		for i, c := range anyCalls(chance, 120) {
			b.quick(t, c)
			isQuick(t, b.x, b.r, c.String())
			if i%20 == 19 {
				isTable(t, b.x, b.r, c.String())
				copies = append(copies, b)
				b = b.copied() // the calls go on with the copy
			}
		}
		for i, kept := range copies {
			isTable(t, kept.x, kept.r, fmt.Sprint("copy ", i))
		}
		if t.Failed() {
			t.Fatal("seed", seed)
		}
	}
}

// said is all that a table tells of a tenant.
func said(x *Table, id int) string {
	quota, isThere := x.Quota(id)
	out := []string{fmt.Sprint(slices.Contains(x.Tenants(), id), quota, isThere, x.Roots(id))}
	for _, root := range slices.Concat(rightRoots(), wrongRoots()) {
		out = append(out, fmt.Sprint(x.May(id, root)))
	}
	for _, p := range slices.Concat(pairs(quota), pairs(100)) {
		out = append(out, fmt.Sprint(int(x.Fits(id, p[0], p[1]))))
	}
	return strings.Join(out, " ")
}

// Each tenant is told, behind each of its calls and at the end, what it is told where nobody else calls.
func TestTenantsAreApart(t *testing.T) {
	for seed := range 40 {
		chance := rand.New(rand.NewSource(int64(1000 + seed)))
		calls := anyCalls(chance, 200)
		all, alone := New(), map[int]*Table{}
		for _, id := range slices.Concat(rightIds(), wrongIds()) {
			alone[id] = New()
		}
		for _, c := range calls {
			isErr(t, c.String(), c.on(all), c.on(alone[c.id]))
			if a, b := said(all, c.id), said(alone[c.id], c.id); a != b {
				t.Fatalf("behind %v tenant %d is told %s, alone %s", c, c.id, a, b)
			}
		}
		for id, x := range alone {
			if a, b := said(all, id), said(x, id); a != b {
				t.Fatalf("tenant %d is told %s, alone %s", id, a, b)
			}
		}
	}
}

// Each call for a tenant, from tables by chance: all others are told what they were told ahead of it.
func TestACallChangesNothingForOthers(t *testing.T) {
	for seed := range 40 {
		chance := rand.New(rand.NewSource(int64(2000 + seed)))
		x := New()
		for _, c := range anyCalls(chance, 150) {
			ahead := map[int]string{}
			for _, id := range rightIds() {
				ahead[id] = said(x, id)
			}
			c.on(x)
			for _, id := range rightIds() {
				if now := said(x, id); id != c.id && now != ahead[id] {
					t.Fatalf("behind %v tenant %d is told %s, ahead of it %s", c, id, now, ahead[id])
				}
			}
		}
	}
}

// Two tenants that may use the same root, and one of whom is let go of it.
func TestASharedRoot(t *testing.T) {
	for _, a := range rightIds() {
		for _, z := range rightIds() {
			if a == z {
				continue
			}
			b := run(t, tenant(a, 10), tenant(z, 20), give(a, 3), give(z, 3), take(a, 3))
			if b.x.May(a, 3) || !b.x.May(z, 3) {
				t.Errorf("May of %d and %d = %v, %v", a, z, b.x.May(a, 3), b.x.May(z, 3))
			}
			isErr(t, "Fits of the first", b.x.Fits(a, 10, 1), 17)
			isErr(t, "Fits of the other", b.x.Fits(z, 10, 10), 0)
		}
	}
}

// Rule 7: the same calls tell the same, also where another table is used between them.
func TestTheSameAgain(t *testing.T) {
	chance := rand.New(rand.NewSource(7))
	calls := anyCalls(chance, 300)
	a, b, other := New(), New(), New()
	for _, c := range calls {
		isErr(t, c.String(), c.on(a), c.on(b))
		anyCall(chance).on(other)
		for _, id := range rightIds() {
			if said(a, id) != said(b, id) {
				t.Fatalf("behind %v tenant %d is told two things", c, id)
			}
		}
	}
}
