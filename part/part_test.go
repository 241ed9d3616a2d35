package part

import (
	"crypto/sha256"
	"fmt"
	"math"
	"math/rand"
	"slices"
	"strings"
	"testing"

	"veneer/api"
	"veneer/blob"
	"veneer/coord"
	"veneer/disk"
	"veneer/rootdb"
	"veneer/wire"
)

// The messages of each kind, of one root.

func prepare(root, txn int, l ...api.Pack) api.Msg {
	return api.Msg{Kind: api.MsPrepare, To: root, Txn: txn, Packs: l}
}

func commit(root, txn int) api.Msg { return api.Msg{Kind: api.MsCommit, To: root, Txn: txn} }

func abort(root, txn int) api.Msg { return api.Msg{Kind: api.MsAbort, To: root, Txn: txn} }

func yes(root, txn int) api.Msg {
	return api.Msg{Kind: api.MsVote, From: root, Txn: txn, Yes: true}
}

func no(root, txn int) api.Msg { return api.Msg{Kind: api.MsVote, From: root, Txn: txn} }

func ack(root, txn int) api.Msg { return api.Msg{Kind: api.MsAck, From: root, Txn: txn} }

func ask(root, txn int) api.Msg { return api.Msg{Kind: api.MsAsk, From: root, Txn: txn} }

// messages are one of each kind, a vote of each way, and prepares with and without packages, of one root and one transaction; the first five are to the root.
func messages(root, txn int) []api.Msg {
	return []api.Msg{
		prepare(root, txn), prepare(root, txn, pack(2, "a", 5, 6), pack(1, "b", 7)), prepare(root, txn, ones(16)...), commit(root, txn), abort(root, txn),
		yes(root, txn), no(root, txn), ack(root, txn), ask(root, txn),
	}
}

// pack is a package whose layers have these sizes; ones are n packages of one layer each.

func pack(owner int, name string, sizes ...int) api.Pack {
	p := api.Pack{Owner: owner, Man: api.Manifest{Name: name, Version: "1"}}
	for i, size := range sizes {
		p.Man.Layers = append(p.Man.Layers, api.Ref{Sum: sha256.Sum256([]byte(fmt.Sprint(name, " ", i))), Size: size})
	}
	return p
}

func ones(n int) []api.Pack {
	var l []api.Pack
	for i := range n {
		l = append(l, pack(1+i%8, fmt.Sprint("p", i), 5))
	}
	return l
}

func isPack(a, b api.Pack) bool {
	return a.Owner == b.Owner && a.Man.Name == b.Man.Name && a.Man.Version == b.Man.Version && slices.Equal(a.Man.Layers, b.Man.Layers)
}

func arePacks(a, b []api.Pack) bool { return slices.EqualFunc(a, b, isPack) }

func isMsg(a, b api.Msg) bool {
	isHead := a.Kind == b.Kind && a.From == b.From && a.To == b.To && a.Txn == b.Txn && a.Yes == b.Yes
	return isHead && arePacks(a.Packs, b.Packs)
}

// isDeed looks at all fields, also at those that a deed of its kind does not have.
func isDeed(a, b api.Deed) bool {
	return a.Kind == b.Kind && a.Txn == b.Txn && arePacks(a.Packs, b.Packs) && isMsg(a.Msg, b.Msg)
}

func areDeeds(a, b []api.Deed) bool { return slices.EqualFunc(a, b, isDeed) }

// named, said and shown are a message, deeds and a participant as short texts.

func named(m api.Msg) string {
	s := fmt.Sprintf("%s %d (%d to %d)", word(m.Kind, "prepare", "vote", "commit", "abort", "ack", "ask"), m.Txn, m.From, m.To)
	if m.Yes {
		s += " yes"
	}
	return s + packed(m.Packs)
}

func said(l []api.Deed) string {
	var out []string
	for _, d := range l {
		s := fmt.Sprintf("%s %d", word(d.Kind, "settle", "stage", "commit", "abort", "send"), d.Txn) + packed(d.Packs)
		if !isMsg(d.Msg, api.Msg{}) {
			s += " " + named(d.Msg)
		}
		out = append(out, s)
	}
	return strings.Join(out, ", ")
}

func shown(p api.Part) string {
	if len(p.Done) > 20 {
		return fmt.Sprintf("root %d, staged %d, done %d of them", p.Root, p.Staged, len(p.Done))
	}
	return fmt.Sprintf("root %d, staged %d, done %v", p.Root, p.Staged, p.Done)
}

func word(kind int, words ...string) string {
	if kind < 1 || kind > len(words) {
		return fmt.Sprint("kind ", kind)
	}
	return words[kind-1]
}

func packed(l []api.Pack) string {
	s := ""
	for _, p := range l {
		s += fmt.Sprintf(" %d:%s(%d)", p.Owner, p.Man.Name, len(p.Man.Layers))
	}
	return s
}

// numbers of transactions that may be, and that may not; roots that are none.

func rightTxns() []int { return []int{1, 2, 7, 255, 256, 1 << 32, 1<<40 - 1, 1 << 40} }

func wrongTxns() []int {
	return []int{-1, -7, 1<<40 + 1, 1 << 41, 1<<40 + 7, math.MaxInt, math.MinInt, math.MinInt + 1, -(1 << 40)} // and 0, but for who is staged
}

func wrongRoots() []int {
	return []int{0, 7, 8, -1, -6, 64, 255, 256, 257, 1 << 32, 1<<32 + 1, -1 << 32, math.MaxInt, math.MinInt}
}

func part(root, staged int, done ...int) api.Part {
	return api.Part{Root: root, Staged: staged, Done: done}
}

// P16.1: Good

// mayBe goes by the chapter's words, one by one.
func mayBe(p api.Part) bool {
	isNumber := func(n int) bool { return n >= 1 && n <= 1<<40 }
	for i, n := range p.Done {
		if !isNumber(n) || n == p.Staged || slices.Contains(p.Done[:i], n) {
			return false
		}
	}
	return slices.Contains([]int{1, 2, 3, 4, 5, 6}, p.Root) && (p.Staged == 0 || isNumber(p.Staged))
}

func isGood(t *testing.T, p api.Part, want bool) {
	t.Helper()
	if got := Good(p); got != want {
		t.Errorf("Good of %s = %v, want %v", shown(p), got, want)
	}
}

func TestGoodByHand(t *testing.T) {
	const most = 1 << 40
	for _, p := range []api.Part{
		part(1, 0), part(6, 0), part(1, 1), part(1, most), part(6, most-1), part(2, 0, 1), part(2, 0, most), {Root: 3, Done: []int{}},
		part(3, 7, 5), part(3, 5, 7), part(3, 0, 5, 7), part(3, 0, 7, 5), part(3, 6, 7, 5), part(3, 8, 7, 5, 6), part(3, 0, 3, 1, 2), part(4, most, most-1, 1), part(4, 1, most, 2),
	} {
		isGood(t, p, true)
	}
	for _, p := range []api.Part{
		{}, part(0, 0), part(7, 0), part(-1, 0), part(0, 7, 5), part(7, 7, 5), part(-1, 7, 5),
		part(1, -1), part(1, most+1), part(1, -1, 5), part(1, most+1, 5), part(1, -5, 5),
		part(1, 0, 0), part(1, 0, -1), part(1, 0, most+1), part(1, 0, 5, 0), part(1, 0, 0, 5), part(1, 0, 5, -1, 7), part(1, 0, 5, 7, most+1), part(1, 7, 5, 0), part(1, 7, 0, 5), part(1, 7, 0),
		part(1, 0, 5, 5), part(1, 0, 5, 7, 5), part(1, 0, 5, 5, 7), part(1, 0, 7, 5, 5), part(1, 0, 7, 5, 6, 7), part(1, 0, most, 1, most), part(1, 9, 5, 7, 5), part(1, 0, 5, 5, 5),
		part(1, 5, 5), part(1, 5, 5, 7), part(1, 5, 7, 5), part(1, 5, 6, 5, 7), part(1, most, most), part(1, 1, most, 1),
	} {
		isGood(t, p, false)
	}
}

func TestGoodOfRoots(t *testing.T) {
	for root := -300; root <= 300; root++ {
		isGood(t, part(root, 0), root >= 1 && root <= 6)
		isGood(t, part(root, 7, 5, 3), root >= 1 && root <= 6)
	}
	for _, root := range wrongRoots() {
		isGood(t, part(root, 0), false)
		isGood(t, part(root, 7), false)
		isGood(t, part(root, 7, 5, 3), false)
	}
}

func TestGoodOfNumbers(t *testing.T) {
	for _, n := range rightTxns() {
		for root := 1; root <= 6; root++ {
			isGood(t, part(root, n), true)
			isGood(t, part(root, 0, n), true)
			isGood(t, part(root, 3, n, 4), true)
			isGood(t, part(root, 3, 4, n), true)
			isGood(t, part(root, n, 4, 3), true)
		}
	}
	for _, n := range append(wrongTxns(), 0) {
		isGood(t, part(2, n), n == 0)
		isGood(t, part(2, n, 4, 3), n == 0)
		isGood(t, part(2, 0, n), false)
		isGood(t, part(2, 3, n), false)
		isGood(t, part(2, 0, n, 4), false)
		isGood(t, part(2, 0, 4, n), false)
		isGood(t, part(2, 3, 4, n, 5), false)
	}
}

// rows are all lists of at most so many elements.
func rows(most int, of ...int) [][]int {
	out := [][]int{nil}
	for from := 0; most > 0; most-- {
		to := len(out)
		for _, l := range out[from:to] {
			for _, n := range of {
				out = append(out, append(slices.Clone(l), n))
			}
		}
		from = to
	}
	return out
}

func TestGoodOfAllFields(t *testing.T) {
	const most = 1 << 40
	numbers := []int{0, 1, 2, 7, most, most + 1, -1, math.MinInt}
	good, bad := 0, 0
	for _, done := range rows(4, numbers...) {
		for _, staged := range numbers {
			for _, root := range []int{0, 1, 6, 7, -1} {
				p := part(root, staged, done...)
				if isGood(t, p, mayBe(p)); mayBe(p) {
					good++
				} else {
					bad++
				}
			}
		}
	}
	if good < 200 || bad < 10000 {
		t.Errorf("%d good ones, %d bad ones", good, bad)
	}
}

// Of many that were committed, in any order, one that is wrong is found at any place.
func TestGoodOfMany(t *testing.T) {
	const many = 3000
	chance := rand.New(rand.NewSource(1))
	for _, order := range []func(l []int){slices.Sort[[]int], slices.Reverse[[]int], func(l []int) {
		chance.Shuffle(len(l), func(i, k int) { l[i], l[k] = l[k], l[i] })
	}} {
		var l []int
		for i := range many {
			l = append(l, 3+7*i)
		}
		order(l)
		isGood(t, part(5, 0, l...), true)
		isGood(t, part(5, 4, l...), true)
		for _, at := range []int{0, 1, 2, many / 2, many - 2, many - 1} {
			isGood(t, part(5, l[at], l...), false)
			for _, n := range []int{0, -1, 1<<40 + 1, l[(at+1)%many], l[(at+many-1)%many], l[(at+many/3)%many]} {
				isGood(t, part(5, 4, slices.Replace(slices.Clone(l), at, at+1, n)...), false)
				isGood(t, part(5, 4, slices.Insert(slices.Clone(l), at, n)...), false)
			}
			isGood(t, part(5, 4, slices.Replace(slices.Clone(l), at, at+1, 1)...), true)
		}
	}
	isGood(t, part(5, 0, slices.Repeat([]int{7}, many)...), false)
}

// What must be done: what each kind of message makes of each state of its transaction, in the chapter's order.

// state is what a transaction is to a participant that may be.
func state(p api.Part, txn int) string {
	switch at := slices.Index(p.Done, txn); {
	case at >= 0 && at == len(p.Done)-1:
		return "last"
	case at >= 0:
		return "earlier"
	case p.Staged == txn:
		return "staged"
	case p.Staged != 0:
		return "another"
	case len(p.Done) > 0:
		return "free"
	}
	return "empty"
}

func recipe(kind int, state string) string {
	return map[string]string{
		"1 staged":  "yes",
		"1 another": "no",
		"1 free":    "settle-last stage yes",
		"1 empty":   "stage yes",
		"3 last":    "settle ack",
		"3 earlier": "ack",
		"3 staged":  "commit settle ack",
		"4 staged":  "abort",
	}[fmt.Sprint(kind, " ", state)]
}

// deeds are those of a recipe, about a transaction.
func deeds(recipe string, p api.Part, txn int, packs []api.Pack) []api.Deed {
	var l []api.Deed
	for _, name := range strings.Fields(recipe) {
		d := map[string]api.Deed{
			"settle": {Kind: 1, Txn: txn},
			"stage":  {Kind: 2, Txn: txn, Packs: packs},
			"commit": {Kind: 3, Txn: txn},
			"abort":  {Kind: 4, Txn: txn},
			"yes":    {Kind: 5, Msg: api.Msg{Kind: 2, From: p.Root, Txn: txn, Yes: true}},
			"no":     {Kind: 5, Msg: api.Msg{Kind: 2, From: p.Root, Txn: txn}},
			"ack":    {Kind: 5, Msg: api.Msg{Kind: 5, From: p.Root, Txn: txn}},
			"ask":    {Kind: 5, Msg: api.Msg{Kind: 6, From: p.Root, Txn: txn}},
		}[name]
		if name == "settle-last" {
			d = api.Deed{Kind: 1, Txn: p.Done[len(p.Done)-1]}
		}
		l = append(l, d)
	}
	return l
}

func mustTake(p api.Part, m api.Msg) []api.Deed {
	if !mayBe(p) || wire.Check(m) != api.OK || m.To != p.Root {
		return nil
	}
	return deeds(recipe(m.Kind, state(p, m.Txn)), p, m.Txn, m.Packs)
}

func mustTick(p api.Part) []api.Deed {
	switch {
	case mayBe(p) && p.Staged != 0:
		return deeds("ask", p, p.Staged, nil)
	case mayBe(p) && len(p.Done) > 0:
		return deeds("settle-last", p, 0, nil)
	}
	return nil
}

func isTaken(t *testing.T, p api.Part, m api.Msg) []api.Deed {
	t.Helper()
	l, want := Take(p, m), mustTake(p, m)
	if !areDeeds(l, want) {
		t.Errorf("%s: Take of %s = %s, want %s", shown(p), named(m), said(l), said(want))
	}
	return l
}

func isTicked(t *testing.T, p api.Part) []api.Deed {
	t.Helper()
	l, want := Tick(p), mustTick(p)
	if !areDeeds(l, want) {
		t.Errorf("%s: Tick = %s, want %s", shown(p), said(l), said(want))
	}
	return l
}

func isNothing(t *testing.T, p api.Part, m api.Msg) {
	t.Helper()
	if l := Take(p, m); len(l) != 0 {
		t.Errorf("%s: Take of %s = %s, want nothing", shown(p), named(m), said(l))
	}
}

// parts are participants of one root in each state that 7 can be in, also beside others.
func parts(root int) []api.Part {
	return []api.Part{
		part(root, 0), part(root, 0, 5), part(root, 0, 5, 9), part(root, 0, 9, 5, 1<<40, 1), // nobody is staged, 7 is not known
		part(root, 7), part(root, 7, 5), part(root, 7, 5, 9), part(root, 7, 9, 8, 5), // 7 is staged
		part(root, 8), part(root, 8, 5), part(root, 8, 5, 9), part(root, 1, 9, 5), part(root, 1<<40, 9, 5), // another one is staged
		part(root, 0, 7), part(root, 0, 5, 7), part(root, 0, 9, 5, 7), part(root, 8, 7), part(root, 8, 5, 7), part(root, 1, 9, 7), // 7 is the last one
		part(root, 0, 7, 5), part(root, 0, 7, 9), part(root, 0, 5, 7, 9), part(root, 0, 7, 9, 8, 5), part(root, 8, 7, 5), part(root, 8, 5, 7, 9), part(root, 6, 7, 5, 9), // 7 is an earlier one
	}
}

// P16.2: Take

func TestTheExample(t *testing.T) {
	l := []api.Pack{pack(2, "a", 5, 6), pack(1, "b", 7)}
	for _, x := range []struct {
		told []api.Deed
		want string
	}{
		{Take(part(1, 0), prepare(1, 7, l...)), "stage 7 2:a(2) 1:b(1), send 0 vote 7 (1 to 0) yes"},
		{Take(part(1, 0), prepare(1, 7)), "stage 7, send 0 vote 7 (1 to 0) yes"},
		{Take(part(1, 7), prepare(1, 8, l...)), "send 0 vote 8 (1 to 0)"},
		{Take(part(1, 7), commit(1, 7)), "commit 7, settle 7, send 0 ack 7 (1 to 0)"},
		{Tick(part(1, 7)), "send 0 ask 7 (1 to 0)"},
	} {
		if s := said(x.told); s != x.want {
			t.Errorf("%s, want %s", s, x.want)
		}
	}
}

func TestTakeByHand(t *testing.T) {
	const most = 1 << 40
	for _, x := range []struct {
		p    api.Part
		m    api.Msg
		want string
	}{
		{part(4, 0), prepare(4, 7, ones(2)...), "stage 7 1:p0(1) 2:p1(1), send 0 vote 7 (4 to 0) yes"},
		{part(4, 0, 5), prepare(4, 7, ones(1)...), "settle 5, stage 7 1:p0(1), send 0 vote 7 (4 to 0) yes"},
		{part(4, 0, 5, 9), prepare(4, 7), "settle 9, stage 7, send 0 vote 7 (4 to 0) yes"},
		{part(4, 0, 9, 5), prepare(4, 7), "settle 5, stage 7, send 0 vote 7 (4 to 0) yes"},
		{part(4, 0, 9, 5, 1), prepare(4, most), "settle 1, stage 1099511627776, send 0 vote 1099511627776 (4 to 0) yes"},
		{part(4, 7), prepare(4, 7, ones(1)...), "send 0 vote 7 (4 to 0) yes"},
		{part(4, 7, 5, 9), prepare(4, 7, ones(1)...), "send 0 vote 7 (4 to 0) yes"},
		{part(4, 8), prepare(4, 7, ones(1)...), "send 0 vote 7 (4 to 0)"},
		{part(4, 8, 5, 9), prepare(4, 7), "send 0 vote 7 (4 to 0)"},
		{part(4, 0, 7), prepare(4, 7, ones(1)...), ""},
		{part(4, 0, 7, 9), prepare(4, 7), ""},
		{part(4, 8, 7), prepare(4, 7), ""},
		{part(4, 8, 7, 9), prepare(4, 7, ones(1)...), ""},
		{part(6, 0), commit(6, 7), ""},
		{part(6, 0, 5, 9), commit(6, 7), ""},
		{part(6, 7), commit(6, 7), "commit 7, settle 7, send 0 ack 7 (6 to 0)"},
		{part(6, 7, 5, 9), commit(6, 7), "commit 7, settle 7, send 0 ack 7 (6 to 0)"},
		{part(6, 8), commit(6, 7), ""},
		{part(6, 8, 5, 9), commit(6, 7), ""},
		{part(6, 0, 7), commit(6, 7), "settle 7, send 0 ack 7 (6 to 0)"},
		{part(6, 0, 9, 5, 7), commit(6, 7), "settle 7, send 0 ack 7 (6 to 0)"},
		{part(6, 8, 7), commit(6, 7), "settle 7, send 0 ack 7 (6 to 0)"},
		{part(6, 8, 9, 7), commit(6, 7), "settle 7, send 0 ack 7 (6 to 0)"},
		{part(6, 0, 7, 9), commit(6, 7), "send 0 ack 7 (6 to 0)"},
		{part(6, 0, 7, 9, 5), commit(6, 7), "send 0 ack 7 (6 to 0)"},
		{part(6, 0, 9, 7, 5), commit(6, 7), "send 0 ack 7 (6 to 0)"},
		{part(6, 8, 7, 5), commit(6, 7), "send 0 ack 7 (6 to 0)"},
		{part(1, 0), abort(1, 7), ""},
		{part(1, 0, 5), abort(1, 7), ""},
		{part(1, 7), abort(1, 7), "abort 7"},
		{part(1, 7, 5, 9), abort(1, 7), "abort 7"},
		{part(1, 8), abort(1, 7), ""},
		{part(1, 8, 5), abort(1, 7), ""},
		{part(1, 0, 7), abort(1, 7), ""},
		{part(1, 0, 7, 9), abort(1, 7), ""},
		{part(1, 8, 7), abort(1, 7), ""},
		{part(1, 8, 7, 9), abort(1, 7), ""},
	} {
		if s := said(Take(x.p, x.m)); s != x.want {
			t.Errorf("%s: Take of %s = %s, want %s", shown(x.p), named(x.m), s, x.want)
		}
		isTaken(t, x.p, x.m)
	}
}

// Each message to each root in each state.
func TestTakeAtEachState(t *testing.T) {
	seen := map[string]int{}
	for root := 1; root <= 6; root++ {
		for _, p := range parts(root) {
			for _, m := range messages(root, 7) {
				isTaken(t, p, m)
				seen[fmt.Sprint(m.Kind, state(p, 7))]++
			}
		}
	}
	if len(seen) != 36 {
		t.Errorf("not each kind was taken at each state: %v", seen)
	}
}

// Participants of up to five transactions, and some that may not be, with each message about each of them, and about one more.
func TestTakeOfAll(t *testing.T) {
	numbers := []int{1, 2, 3, 4, 1 << 40}
	for _, done := range rows(4, numbers...) {
		for _, staged := range append(numbers, 0) {
			p := part(3, staged, done...)
			for _, txn := range append(numbers, 5) {
				for _, m := range messages(3, txn) {
					isTaken(t, p, m)
				}
			}
		}
	}
}

func TestTakeOfNumbers(t *testing.T) {
	for _, txn := range rightTxns() {
		for _, p := range []api.Part{part(2, 0), part(2, txn), part(2, 0, txn), part(2, 3, txn), part(2, 3, txn, 4), part(2, 3, 4, txn), part(2, 0, txn, 4), part(2, 3), part(2, txn, 4)} {
			for _, m := range messages(2, txn)[:5] {
				if recipe(m.Kind, state(p, txn)) != "" && len(Take(p, m)) == 0 {
					t.Errorf("%s: Take of %s = nothing", shown(p), named(m))
				}
				isTaken(t, p, m)
			}
		}
	}
}

// The packages of a prepare are staged as they came, and nobody else's deed has any.
func TestTakeOfPackages(t *testing.T) {
	eight := []int{1, 2, 3, 4, 5, 6, 7, 1<<31 - 1}
	for n, l := range [][]api.Pack{nil, {}, ones(1), ones(2), ones(16), {pack(8, "z", eight...), pack(1, "a", eight...)}, {pack(3, strings.Repeat("z", 16), 0)}} {
		for _, p := range parts(5) {
			told := isTaken(t, p, prepare(5, 7, l...))
			staged := 0
			for _, d := range told {
				if d.Kind == api.DoStage {
					staged++
				}
				if d.Kind == api.DoStage && !arePacks(d.Packs, l) || d.Kind != api.DoStage && len(d.Packs) != 0 {
					t.Errorf("list %d: %s", n, said(told))
				}
			}
			if isFree := p.Staged == 0 && !slices.Contains(p.Done, 7); (staged == 1) != isFree || staged > 1 {
				t.Errorf("list %d: %s: %s", n, shown(p), said(told))
			}
		}
	}
}

// A list of packages without an element is none.
func TestTakeOfNoPackages(t *testing.T) {
	for _, p := range parts(5) {
		for _, m := range []api.Msg{prepare(5, 7), commit(5, 7), abort(5, 7)} {
			bare := m
			m.Packs = make([]api.Pack, 0, 3)
			if a, b := isTaken(t, p, bare), isTaken(t, p, m); !areDeeds(a, b) {
				t.Errorf("%s: Take of %s = %s and %s", shown(p), named(m), said(a), said(b))
			}
		}
	}
}

// Those that a root never gets, and messages to others.
func TestTakeOfWhatIsNotToTheRoot(t *testing.T) {
	for root := 1; root <= 6; root++ {
		for _, p := range parts(root) {
			for _, m := range messages(root, 7)[5:] { // to node 0
				if wire.Check(m) != api.OK {
					t.Fatalf("%s is refused", named(m))
				}
				isNothing(t, p, m)
			}
			for other := 1; other <= 6; other++ {
				for _, m := range messages(other, 7) {
					if other != root {
						isNothing(t, p, m)
					}
				}
			}
		}
	}
}

// wrongMsgs are messages to a root that wire.Check refuses, for each of its reasons.
func wrongMsgs(root, txn int) []api.Msg {
	var l []api.Msg
	for _, kind := range []int{0, 7, -1, 256 + 1, 256 + 3, 1<<32 + 3, math.MaxInt, math.MinInt} {
		l = append(l, api.Msg{Kind: kind, To: root, Txn: txn})
	}
	for _, kind := range []int{2, 5, 6} { // of kinds that lead to node 0
		l = append(l, api.Msg{Kind: kind, To: root, Txn: txn}, api.Msg{Kind: kind, From: 1 + root%6, To: root, Txn: txn}, api.Msg{Kind: kind, From: root, To: root, Txn: txn})
	}
	for _, kind := range []int{1, 3, 4} {
		for _, from := range []int{root, 1 + root%6, 7, -1, math.MinInt} {
			l = append(l, api.Msg{Kind: kind, From: from, To: root, Txn: txn})
		}
		for _, to := range wrongRoots() {
			l = append(l, api.Msg{Kind: kind, To: to, Txn: txn})
		}
		for _, n := range append(wrongTxns(), 0) {
			l = append(l, api.Msg{Kind: kind, To: root, Txn: n})
		}
		l = append(l, api.Msg{Kind: kind, From: root, Txn: txn}, api.Msg{Kind: kind, To: root, Txn: txn, Yes: true})
	}
	for _, kind := range []int{3, 4} {
		l = append(l, api.Msg{Kind: kind, To: root, Txn: txn, Packs: ones(1)}, api.Msg{Kind: kind, To: root, Txn: txn, Packs: make([]api.Pack, 1)})
	}
	twice := pack(1, "a", 5, 6)
	twice.Man.Layers[1].Sum = twice.Man.Layers[0].Sum
	for _, packs := range [][]api.Pack{{{}}, {pack(0, "a", 5)}, {pack(9, "a", 5)}, {pack(1, "", 5)}, {pack(1, "a")}, {pack(1, "a", -1)}, {twice}, {pack(1, "a", 5), pack(2, "a", 6)}, ones(17), append(ones(15), pack(9, "b", 5))} {
		l = append(l, prepare(root, txn, packs...))
	}
	return append(l, api.Msg{})
}

func TestTakeOfWrongMessages(t *testing.T) {
	for _, p := range append(parts(4), parts(6)...) {
		for _, m := range wrongMsgs(p.Root, 7) {
			if wire.Check(m) == api.OK {
				t.Fatalf("%s is not refused", named(m))
			}
			isNothing(t, p, m)
		}
	}
}

// wrongParts are such that may not be, next to those in which 7 is in each state.
func wrongParts() []api.Part {
	var l []api.Part
	for _, p := range parts(4) {
		for _, root := range wrongRoots() {
			l = append(l, part(root, p.Staged, p.Done...))
		}
		for _, n := range wrongTxns() {
			l = append(l, part(4, n, p.Done...), part(4, p.Staged, append(slices.Clone(p.Done), n)...), part(4, p.Staged, append([]int{n}, p.Done...)...))
		}
		l = append(l, part(4, p.Staged, append(slices.Clone(p.Done), 0)...), part(4, p.Staged, append([]int{0}, p.Done...)...))
		for _, n := range p.Done {
			l = append(l, part(4, n, p.Done...), part(4, p.Staged, append(slices.Clone(p.Done), n)...), part(4, p.Staged, append([]int{n}, p.Done...)...))
		}
		if p.Staged != 0 {
			l = append(l, part(4, p.Staged, append(slices.Clone(p.Done), p.Staged)...), part(4, p.Staged, append([]int{p.Staged}, p.Done...)...))
		}
	}
	return append(l, api.Part{})
}

func TestTakeOfWrongParts(t *testing.T) {
	for _, p := range wrongParts() {
		isGood(t, p, false)
		for _, m := range messages(4, 7) {
			isNothing(t, p, m)
		}
		for _, m := range slices.Concat(messages(p.Root, 7), messages(p.Root, p.Staged), wrongMsgs(4, 7)[:9]) {
			isNothing(t, p, m)
		}
	}
}

// Of many that were committed only the last one is settled.
func TestTakeOfMany(t *testing.T) {
	const many = 3000
	var l []int
	for i := range many {
		l = append(l, 1+(1000*i+17)%3001) // 3001 has no divisor with 1000: none comes twice
	}
	first, middle, end := l[0], l[many/2], l[many-1]
	free := 1
	for slices.Contains(l, free) {
		free++
	}
	for _, p := range []api.Part{part(2, 0, l...), part(2, free, l...), part(2, 4000, l...)} {
		isGood(t, p, true)
		for _, txn := range []int{first, middle, end, free, 4000, 4001} {
			for _, m := range messages(2, txn) {
				isTaken(t, p, m)
			}
		}
		isTicked(t, p)
	}
}

// P16.3: Tick

func TestTickByHand(t *testing.T) {
	for _, x := range []struct {
		p    api.Part
		want string
	}{
		{part(3, 0), ""},
		{api.Part{Root: 3, Done: []int{}}, ""},
		{part(3, 0, 5), "settle 5"},
		{part(3, 0, 5, 9), "settle 9"},
		{part(3, 0, 9, 5), "settle 5"},
		{part(3, 0, 5, 1<<40, 9, 1), "settle 1"},
		{part(3, 7), "send 0 ask 7 (3 to 0)"},
		{part(3, 7, 5), "send 0 ask 7 (3 to 0)"},
		{part(3, 7, 5, 9), "send 0 ask 7 (3 to 0)"},
		{part(6, 1<<40, 5, 9), "send 0 ask 1099511627776 (6 to 0)"},
		{part(1, 1, 9, 5), "send 0 ask 1 (1 to 0)"},
		{part(0, 7, 5), ""}, {part(7, 7, 5), ""}, {part(-1, 7), ""}, {part(0, 0, 5), ""}, {part(7, 0, 5), ""},
		{part(3, -1), ""}, {part(3, -1, 5), ""}, {part(3, 1<<40+1, 5), ""}, {part(3, 5, 5), ""}, {part(3, 7, 5, 5), ""},
		{part(3, 0, 5, 5), ""}, {part(3, 0, 5, 9, 5), ""}, {part(3, 0, 0), ""}, {part(3, 0, 0, 5), ""}, {part(3, 0, 5, 0), ""}, {part(3, 0, 5, -1), ""}, {part(3, 0, 1<<40+1, 5), ""},
		{api.Part{}, ""},
	} {
		if s := said(Tick(x.p)); s != x.want {
			t.Errorf("%s: Tick = %s, want %s", shown(x.p), s, x.want)
		}
		isTicked(t, x.p)
	}
}

func TestTickAtEachState(t *testing.T) {
	for root := 1; root <= 6; root++ {
		for _, p := range parts(root) {
			isTicked(t, p)
		}
		for _, txn := range rightTxns() {
			for _, p := range []api.Part{part(root, txn), part(root, txn, 4, 3), part(root, 0, txn), part(root, 0, 4, txn), part(root, 0, txn, 4), part(root, 3, txn)} {
				if l := isTicked(t, p); len(l) != 1 {
					t.Errorf("%s: Tick = %s", shown(p), said(l))
				}
			}
		}
	}
	for _, done := range rows(4, 1, 2, 3, 4, 1<<40) {
		for _, staged := range []int{0, 1, 2, 3, 4, 1 << 40} {
			isTicked(t, part(3, staged, done...))
		}
	}
}

func TestTickOfWrongParts(t *testing.T) {
	for _, p := range wrongParts() {
		if l := Tick(p); len(l) != 0 {
			t.Errorf("%s: Tick = %s, want nothing", shown(p), said(l))
		}
	}
}

// P16.4, and rows of messages

// scene is a root that does the deeds by itself, and takes note of them: a model of what is on its disk, and of who was settled in the store.
type scene struct {
	p       api.Part
	wants   []api.Pack // of who is staged
	stack   []api.Pack
	settled []int // who was, at least once
	isDown  bool  // the store: settling fails
	sent    []api.Msg
}

func (x scene) String() string {
	return fmt.Sprintf("%s, settled %v, store down %v, has%s, wants%s", shown(x.p), x.settled, x.isDown, packed(x.stack), packed(x.wants))
}

// does does deeds up to the first that is not OK, in new memory, and tells what P16.4 forbids, if anything was.
func (x scene) does(l []api.Deed) (scene, string) {
	for _, d := range l {
		isDone := slices.Contains(x.p.Done, d.Txn)
		switch d.Kind {
		case api.DoSettle:
			if !isDone || d.Txn != x.p.Done[len(x.p.Done)-1] {
				return x, "settles who is not the last one that was committed"
			}
			if x.isDown {
				return x, ""
			}
			x.settled = append(slices.Clip(x.settled), d.Txn)
		case api.DoStage:
			if isDone || x.p.Staged != 0 {
				return x, "stages while one is staged, or who was committed"
			}
			x.p.Staged, x.wants = d.Txn, d.Packs
		case api.DoCommit:
			if isDone || x.p.Staged != d.Txn {
				return x, "commits who is not staged"
			}
			x.p.Staged, x.p.Done = 0, append(slices.Clip(x.p.Done), d.Txn)
			x.stack, x.wants = x.wants, nil
		case api.DoAbort:
			if isDone || x.p.Staged != d.Txn {
				return x, "aborts who was committed, or is not staged"
			}
			x.p.Staged, x.wants = 0, nil
		case api.DoSend:
			if s := x.forbids(d.Msg); s != "" {
				return x, s
			}
			x.sent = append(slices.Clip(x.sent), d.Msg)
		default:
			return x, "does what is no deed"
		}
	}
	return x, ""
}

// forbids tells what speaks against sending a message now.
func (x scene) forbids(m api.Msg) string {
	switch {
	case wire.Check(m) != api.OK || m.From != x.p.Root || m.To != 0:
		return "sends what may not be"
	case m.Kind == api.MsVote && m.Yes && x.p.Staged != m.Txn:
		return "sends a yes for who is not staged"
	case m.Kind == api.MsVote && !m.Yes && (x.p.Staged == 0 || x.p.Staged == m.Txn):
		return "sends a no where nobody else is staged"
	case m.Kind == api.MsAck && !slices.Contains(x.p.Done, m.Txn):
		return "sends an ack for who is not committed"
	case m.Kind == api.MsAck && !slices.Contains(x.settled, m.Txn):
		return "sends an ack for who is not settled"
	case m.Kind == api.MsAsk && x.p.Staged != m.Txn:
		return "asks for who is not staged"
	}
	return ""
}

// befalls is what comes to a root: a message, or (no Kind) a tick.
func (x scene) befalls(t *testing.T, m api.Msg) scene {
	t.Helper()
	var l []api.Deed
	if m.Kind == 0 {
		l = isTicked(t, x.p)
	} else {
		l = isTaken(t, x.p, m)
	}
	next, wrong := x.does(l)
	if wrong != "" {
		t.Fatalf("%v: behind %s it does %s: %s", x, named(m), said(l), wrong)
	}
	if !mayBe(next.p) || !Good(next.p) {
		t.Fatalf("%v: behind %s: %v", x, named(m), next)
	}
	if len(next.p.Done) > 0 && next.p.Staged != 0 && !slices.Contains(next.settled, next.p.Done[len(next.p.Done)-1]) {
		t.Fatalf("%v: behind %s: staged, while the last one is not settled", x, named(m))
	}
	return next
}

// smallMsgs are messages about three transactions, each of which wants something of its own, and a tick.
func smallMsgs(root int) []api.Msg {
	l := []api.Msg{{}}
	for txn := 1; txn <= 3; txn++ {
		l = append(l, prepare(root, txn, pack(txn, fmt.Sprint("t", txn), txn)), commit(root, txn), abort(root, txn))
	}
	return l
}

// All rows of up to five messages and ticks, while the store is up or down: where a message comes again right behind itself, too, and where it came earlier; and each that comes twice leaves what it left the first time.
func TestAllRows(t *testing.T) {
	all := smallMsgs(2)
	ended := 0
	var goOn func(x scene, left int)
	goOn = func(x scene, left int) {
		if left == 0 {
			ended++
			return
		}
		for _, m := range all {
			for _, isDown := range []bool{false, true} {
				y := x
				y.isDown = isDown
				y = y.befalls(t, m)
				again := y.befalls(t, m)
				again.sent, again.settled = y.sent, y.settled
				if again.String() != y.String() {
					t.Fatalf("%v: %s again: %v", y, named(m), again)
				}
				if isDown && len(y.p.Done) == 0 { // nobody can be settled: it is all the same
					continue
				}
				goOn(y, left-1)
			}
		}
	}
	goOn(scene{p: part(2, 0)}, 5)
	if ended < 100000 {
		t.Errorf("only %d rows", ended)
	}
}

// anyMsg picks a message about one of so many transactions, rather one that the root can do something with.
func anyMsg(chance *rand.Rand, p api.Part, most int) api.Msg {
	txn := 1 + chance.Intn(most)
	if chance.Intn(2) == 0 && p.Staged != 0 {
		txn = p.Staged
	}
	switch chance.Intn(12) {
	case 0, 1, 2, 3:
		return prepare(p.Root, txn, pack(1+txn%8, fmt.Sprint("t", txn), txn), pack(1, "z", 1, txn))
	case 4, 5, 6, 7:
		return commit(p.Root, txn)
	case 8, 9:
		return abort(p.Root, txn)
	case 10:
		l := append(wrongMsgs(p.Root, txn), messages(p.Root, txn)[5:]...)
		return l[1+chance.Intn(len(l)-1)]
	}
	return api.Msg{} // a tick
}

// Long rows: of what comes some messages come again right behind themselves, some later; the store goes down, and comes up.
func TestRowsByChance(t *testing.T) {
	told := map[string]int{}
	for seed := range int64(40) {
		chance := rand.New(rand.NewSource(seed))
		x, late := scene{p: part(1+int(seed)%6, 0)}, []api.Msg{}
		for range 1500 {
			m := anyMsg(chance, x.p, 300)
			if len(late) > 0 && chance.Intn(4) == 0 {
				m = late[chance.Intn(len(late))]
			}
			late = append(late, m)
			ahead := len(x.sent)
			for range 1 + chance.Intn(2) {
				x = x.befalls(t, m)
			}
			for _, sent := range x.sent[ahead:] {
				told[fmt.Sprint(sent.Kind, " ", sent.Yes)]++
			}
			if chance.Intn(10) == 0 {
				x.isDown = !x.isDown
			}
		}
		told["done"] += len(x.p.Done)
		told["settled"] += len(x.settled)
	}
	for _, name := range []string{"2 true", "2 false", "5 false", "6 false", "done", "settled"} {
		if told[name] < 500 {
			t.Errorf("%s: %d times, of %v", name, told[name], told)
		}
	}
}

// From any participant that may be: what is done by one message breaks nothing of P16.4, wherever the deeds are broken off.
func TestFromEachState(t *testing.T) {
	for _, p := range append(parts(3), part(3, 0)) {
		for _, txn := range []int{5, 7, 8, 9, 1, 1 << 40} {
			for _, m := range messages(3, txn) {
				x := scene{p: p, settled: p.Done}
				l := Take(p, m)
				for n := range len(l) + 1 {
					if y, wrong := x.does(l[:n]); wrong != "" || !mayBe(y.p) {
						t.Errorf("%s: Take of %s = %s: %s", shown(p), named(m), said(l), wrong)
					}
				}
			}
		}
		if _, wrong := (scene{p: p, settled: p.Done}).does(Tick(p)); wrong != "" {
			t.Errorf("%s: Tick = %s: %s", shown(p), said(Tick(p)), wrong)
		}
	}
}

// Where the store is down, nothing is done behind a settling.
func TestTheStoreIsDown(t *testing.T) {
	down := scene{p: part(2, 0), isDown: true}
	x := down.befalls(t, prepare(2, 7, ones(1)...)) // nobody was committed: nothing is to be settled
	x = x.befalls(t, commit(2, 7))
	if x.p.Staged != 0 || !slices.Equal(x.p.Done, []int{7}) || len(x.sent) != 1 {
		t.Fatal(x)
	}
	x = x.befalls(t, prepare(2, 8)).befalls(t, commit(2, 7)).befalls(t, api.Msg{})
	if x.p.Staged != 0 || len(x.sent) != 1 || len(x.settled) != 0 {
		t.Fatal(x)
	}
	x.isDown = false
	x = x.befalls(t, prepare(2, 8))
	if x.p.Staged != 8 || len(x.sent) != 2 || !slices.Equal(x.settled, []int{7}) {
		t.Fatal(x)
	}
	if x = x.befalls(t, commit(2, 7)); len(x.sent) != 3 {
		t.Fatal(x)
	}
}

// The same is told again, whatever was asked between: nothing is kept.
func TestTheSameAgain(t *testing.T) {
	chance := rand.New(rand.NewSource(3))
	var ps []api.Part
	for root := 1; root <= 6; root++ {
		ps = append(ps, parts(root)...)
	}
	first := map[string]string{}
	for range 20000 {
		p := ps[chance.Intn(len(ps))]
		l := messages(p.Root, []int{5, 7, 8, 9}[chance.Intn(4)])
		m := l[chance.Intn(len(l))]
		asked, told := shown(p)+named(m), fmt.Sprint(said(Take(p, m)), "; ", said(Tick(p)), Good(p))
		if s, isThere := first[asked]; isThere && s != told {
			t.Fatalf("%s: %s, at first %s", asked, told, s)
		}
		first[asked] = told
	}
}

// With a coordinator, on wires that lose and double messages and change their order.

type whole struct {
	c     *coord.Coord
	n     *wire.Net
	roots []scene // from 1 on
	sure  []int   // whose commit was written down
	plans map[int][]api.Plan
}

func newWhole(roots int) *whole {
	w := &whole{c: coord.New(6), n: wire.New(), roots: make([]scene, 1), plans: map[int][]api.Plan{}}
	for root := 1; root <= roots; root++ {
		w.roots = append(w.roots, scene{p: part(root, 0)})
	}
	return w
}

func (w *whole) send(l []api.Msg) {
	for _, m := range l {
		w.n.Send(m)
	}
}

// begin begins a transaction on some roots.
func (w *whole) begin(t *testing.T, txn int, roots ...int) {
	for _, root := range roots {
		w.plans[txn] = append(w.plans[txn], api.Plan{Root: root, Packs: []api.Pack{pack(1, fmt.Sprint("t", txn, "-", root), txn)}})
	}
	l, e := w.c.Begin(txn, w.plans[txn])
	if e != api.OK {
		t.Fatalf("Begin(%d) = %d", txn, int(e))
	}
	w.send(l)
}

// rootTakes lets a root do what comes of a message or a tick.
func (w *whole) rootTakes(t *testing.T, m api.Msg, root int) {
	x := w.roots[root]
	ahead := len(x.sent)
	y := x.befalls(t, m)
	if len(y.p.Done) > len(x.p.Done) && !slices.Contains(w.sure, y.p.Done[len(x.p.Done)]) {
		t.Fatalf("root %d commits %d, which was not written down", root, y.p.Done[len(x.p.Done)])
	}
	if m.Kind == api.MsAbort && y.p.Staged != x.p.Staged && slices.Contains(w.sure, m.Txn) {
		t.Fatalf("root %d gives up %d, which was written down", root, m.Txn)
	}
	w.send(y.sent[ahead:])
	w.roots[root] = y
}

// coordinatorTakes lets it take what is in its box.
func (w *whole) coordinatorTakes(t *testing.T) {
	for m, ok := w.n.Take(0); ok; m, ok = w.n.Take(0) {
		s := w.c.Take(m)
		w.send(s.Out)
		if s.Log != 0 {
			w.sure = append(w.sure, s.Log)
			l, e := w.c.Sure(s.Log)
			if e != api.OK {
				t.Fatal(int(e))
			}
			w.send(l)
		}
	}
}

// round is one in which all arrives, and all are ticked.
func (w *whole) round(t *testing.T) {
	for root := 1; root < len(w.roots); root++ {
		for w.n.Deliver(0, root, 0) == api.OK {
		}
		for m, ok := w.n.Take(root); ok; m, ok = w.n.Take(root) {
			w.rootTakes(t, m, root)
		}
		w.rootTakes(t, api.Msg{}, root)
		for w.n.Deliver(root, 0, 0) == api.OK {
		}
		w.coordinatorTakes(t)
	}
	l, _ := w.c.Tick()
	w.send(l)
}

// chaos lets something befall by chance.
func (w *whole) chaos(t *testing.T, chance *rand.Rand) {
	root := 1 + chance.Intn(len(w.roots)-1)
	from, to := 0, root
	if chance.Intn(2) == 0 {
		from, to = root, 0
	}
	under := len(w.n.Link(from, to))
	switch at := chance.Intn(under + 1); chance.Intn(12) {
	case 0:
		w.n.Drop(from, to, at)
	case 1, 2:
		w.n.Double(from, to, at)
	case 3:
		w.rootTakes(t, api.Msg{}, root)
	case 4:
		l, _ := w.c.Tick()
		w.send(l)
	case 5:
		w.roots[root].isDown = !w.roots[root].isDown
	default:
		w.n.Deliver(from, to, at)
	}
	if m, ok := w.n.Take(root); ok {
		w.rootTakes(t, m, root)
	}
	w.coordinatorTakes(t)
}

// isAllOrNone tells whether what was written down was committed at all its roots, in one order, and nothing else anywhere.
func (w *whole) isAllOrNone(t *testing.T) {
	for root := 1; root < len(w.roots); root++ {
		var want []int
		var stack []api.Pack
		for _, txn := range w.sure {
			for _, p := range w.plans[txn] {
				if p.Root == root {
					want, stack = append(want, txn), p.Packs
				}
			}
		}
		if x := w.roots[root]; x.p.Staged != 0 || !slices.Equal(x.p.Done, want) || !arePacks(x.stack, stack) {
			t.Fatalf("root %d: %v, want %v with%s", root, x, want, packed(stack))
		}
	}
	if l := w.c.Open(); len(l) != 0 {
		t.Fatalf("%v are open", l)
	}
}

func TestWithACoordinator(t *testing.T) {
	w := newWhole(2)
	w.begin(t, 7, 1, 2)
	for range 3 {
		w.round(t)
	}
	w.isAllOrNone(t)
	if !slices.Equal(w.sure, []int{7}) {
		t.Fatalf("%v was written down", w.sure)
	}
	w.begin(t, 8, 1)
	w.begin(t, 9, 1, 2) // where 8 is staged, it is refused
	for range 10 {
		w.round(t)
	}
	w.isAllOrNone(t)
	if !slices.Equal(w.sure, []int{7, 8}) {
		t.Fatalf("%v was written down", w.sure)
	}
}

func TestAllOrNone(t *testing.T) {
	sure, begun := 0, 0
	for seed := range int64(60) {
		chance := rand.New(rand.NewSource(seed))
		w := newWhole(2 + int(seed)%3)
		for txn := 1; txn <= 30; txn++ {
			if chance.Intn(3) > 0 { // another one may be under way
				for range 8 {
					w.round(t)
				}
			}
			var roots []int
			for root := 1; root < len(w.roots); root++ {
				if chance.Intn(3) > 0 {
					roots = append(roots, root)
				}
			}
			if len(roots) > 0 {
				w.begin(t, txn, roots...)
				begun++
			}
			for range 40 {
				w.chaos(t, chance)
			}
		}
		for root := range w.roots {
			w.roots[root].isDown = false
		}
		for range 20 {
			w.round(t)
		}
		w.isAllOrNone(t)
		sure += len(w.sure)
	}
	if sure < begun/4 || sure > begun-begun/20 {
		t.Errorf("%d of %d were written down", sure, begun)
	}
}

// On a database and a store, which goes down now and then: what a participant that the database tells does is told OK there; the root has what was committed last, and its layers are held, as are those of who is staged.

type node struct {
	db     *rootdb.DB
	store  *blob.Store
	isDown bool // the store
}

func opened(t *testing.T) *node {
	t.Helper()
	var disks []*disk.Disk
	for range 2 {
		d, e := disk.New(2000)
		if e != api.OK {
			t.Fatal(int(e))
		}
		disks = append(disks, d)
	}
	db, e := rootdb.Open(disks[0])
	store, f := blob.Open(disks[1])
	if e != api.OK || f != api.OK {
		t.Fatal(int(e), int(f))
	}
	return &node{db: db, store: store}
}

// does does a deed; the layers of who is to be staged are in the store by then, and who is given up lets go of them.
func (n *node) does(d api.Deed) api.Errno {
	pin := api.Hold{Root: 3, Txn: d.Txn}
	switch d.Kind {
	case api.DoSettle:
		if n.isDown {
			return api.ErrDown
		}
		return n.store.Turn(pin)
	case api.DoStage:
		for _, p := range d.Packs {
			for i := range p.Man.Layers {
				n.store.Put(fmt.Sprint(p.Man.Name, " ", i)) // as pack makes its digests
			}
		}
		if e := n.store.Hold(pin, rootdb.Sums(d.Packs)); e != api.OK {
			return e
		}
		return n.db.Stage(d.Txn, d.Packs)
	case api.DoCommit:
		return n.db.Commit(d.Txn)
	case api.DoAbort:
		if e := n.store.Free(pin); e != api.OK {
			return e
		}
		return n.db.Abort(d.Txn)
	}
	return wire.New().Send(d.Msg)
}

func (n *node) part() api.Part {
	staged, _ := n.db.Staged()
	return part(3, staged, n.db.Done()...)
}

// isHeld tells whether the layers of the root's stack, and of what is staged, are held.
func (n *node) isHeld() bool {
	held := func(txn int) []api.Digest { return n.store.Held(api.Hold{Root: 3, Txn: txn}) }
	own, sums, done := held(0), rootdb.Sums(n.db.Stack()), n.db.Done()
	if len(done) > 0 && !slices.Equal(own, sums) {
		own = held(done[len(done)-1]) // committed, and not settled yet
	}
	staged, wants := n.db.Staged()
	return slices.Equal(own, sums) && (staged == 0 || slices.Equal(held(staged), rootdb.Sums(wants)))
}

func TestOnADatabase(t *testing.T) {
	done, refused := 0, 0
	for seed := range int64(6) {
		chance := rand.New(rand.NewSource(seed))
		n := opened(t)
		var stack, wants []api.Pack
		for range 300 {
			p := n.part()
			m := anyMsg(chance, p, 60)
			l := isTicked(t, p)
			if m.Kind != 0 {
				l = isTaken(t, p, m)
			}
			for _, d := range l {
				e := n.does(d)
				if e == api.ErrDown && n.isDown {
					refused++
					break
				}
				if e != api.OK {
					t.Fatalf("%s: behind %s: %s: %d", shown(p), named(m), said([]api.Deed{d}), int(e))
				}
				switch d.Kind {
				case api.DoStage:
					wants = d.Packs
				case api.DoCommit:
					stack = wants
				}
			}
			if !arePacks(n.db.Stack(), stack) || !n.isHeld() {
				t.Fatalf("%s: behind %s: it has%s, want%s; %v hold", shown(n.part()), named(m), packed(n.db.Stack()), packed(stack), n.store.Holds())
			}
			if chance.Intn(6) == 0 {
				n.isDown = !n.isDown
			}
		}
		done += len(n.db.Done())
		n.isDown = false
		if staged := n.part().Staged; staged != 0 {
			n.does(Take(n.part(), abort(3, staged))[0])
		}
		for _, d := range Tick(n.part()) {
			n.does(d)
		}
		if l := n.store.Holds(); len(l) > 1 || !slices.Equal(n.store.Held(api.Hold{Root: 3}), rootdb.Sums(stack)) {
			t.Errorf("at the end %v hold", l)
		}
	}
	if done < 60 || refused < 60 {
		t.Errorf("%d were committed, %d settlings refused", done, refused)
	}
}

// Rule 5: memory

// roomyInts and roomyPacks are the same in lists that have memory behind their lengths; memory is all that packages stand in, with what is behind the lengths.

func roomyInts(l []int, behind ...int) []int {
	return append(slices.Clone(l), behind...)[:len(l)]
}

func roomyPacks(l []api.Pack) []api.Pack {
	packs := make([]api.Pack, 0, len(l)+3)
	for _, p := range l {
		refs := append(make([]api.Ref, 0, len(p.Man.Layers)+3), p.Man.Layers...)
		for k := len(refs); k < cap(refs); k++ {
			refs[:cap(refs)][k].Size = 1000 + k
		}
		p.Man.Layers = refs
		packs = append(packs, p)
	}
	for i := len(packs); i < cap(packs); i++ {
		packs[:cap(packs)][i].Owner = 1000 + i
	}
	return packs
}

func memory(l []api.Pack) string {
	out := ""
	for _, p := range l[:cap(l)] {
		out += fmt.Sprint(p.Owner, p.Man.Name, p.Man.Version, p.Man.Layers[:cap(p.Man.Layers)])
	}
	return out
}

// spoilPacks, spoilDeeds and spoilInts write over all memory of a list.

func spoilPacks(l []api.Pack) {
	l = l[:cap(l)]
	for i, p := range l {
		refs := p.Man.Layers[:cap(p.Man.Layers)]
		for k := range refs {
			refs[k] = api.Ref{Sum: api.Digest{99, byte(k)}, Size: 99}
		}
		l[i] = api.Pack{Owner: 99, Man: api.Manifest{Name: "spoilt"}}
	}
}

func spoilDeeds(l []api.Deed) {
	l = l[:cap(l)]
	for i, d := range l {
		spoilPacks(d.Packs)
		spoilPacks(d.Msg.Packs)
		l[i] = api.Deed{Kind: 99, Txn: 99, Msg: api.Msg{Kind: 99, From: 99, To: 99, Txn: 99, Yes: true}}
	}
}

func spoilInts(l []int) {
	l = l[:cap(l)]
	for i := range l {
		l[i] = 99
	}
}

// wanted is packages of one and of two layers.
func wanted() []api.Pack { return []api.Pack{pack(2, "a", 5, 6), pack(1, "b", 7)} }

// What is handed in is not changed, by no call, and what lies behind its length neither.
func TestWhatIsHandedInStays(t *testing.T) {
	for _, p := range append(parts(4), wrongParts()...) {
		given := slices.Clone(p.Done)
		p.Done = roomyInts(p.Done, 1000, 1001, 7)
		behind := slices.Clone(p.Done[:len(given)+3])
		for _, txn := range []int{5, 7, 8} {
			for _, m := range messages(4, txn) {
				m.Packs = roomyPacks(m.Packs)
				packs, head := memory(m.Packs), named(m)
				Take(p, m)
				Tick(p)
				Good(p)
				if !slices.Equal(p.Done, given) || !slices.Equal(p.Done[:len(given)+3], behind) {
					t.Fatalf("%s: %v, given %v", named(m), p.Done[:len(given)+3], behind)
				}
				if memory(m.Packs) != packs || named(m) != head {
					t.Fatalf("%s: %s, given %s", named(m), memory(m.Packs), packs)
				}
			}
		}
	}
}

// What was told stays, when what was handed in is changed.
func TestWhatIsHandedInIsNotKept(t *testing.T) {
	for _, p := range parts(4) {
		for _, txn := range []int{5, 7, 8} {
			for _, m := range []api.Msg{prepare(4, txn, wanted()...), commit(4, txn), abort(4, txn)} {
				q := p
				q.Done = roomyInts(p.Done, 1000)
				n := m
				n.Packs = roomyPacks(m.Packs)
				told, ticked := Take(q, n), Tick(q)
				spoilPacks(n.Packs)
				spoilInts(q.Done)
				if !areDeeds(told, mustTake(p, m)) || !areDeeds(ticked, mustTick(p)) {
					t.Errorf("%s: Take of %s = %s, Tick = %s", shown(p), named(m), said(told), said(ticked))
				}
			}
		}
	}
}

// What is told is new memory each time: changed, it changes neither what was handed in nor what else was told.
func TestWhatIsToldIsNew(t *testing.T) {
	for _, p := range parts(4) {
		for _, txn := range []int{5, 7, 8} {
			for _, m := range []api.Msg{prepare(4, txn, wanted()...), commit(4, txn), abort(4, txn)} {
				done, packs := slices.Clone(p.Done), memory(m.Packs)
				want, tick := mustTake(p, prepare(4, txn, wanted()...)), mustTick(p)
				if m.Kind != api.MsPrepare {
					want = mustTake(p, m)
				}
				first, second, ticked := Take(p, m), Take(p, m), Tick(p)
				spoilDeeds(first)
				spoilDeeds(Tick(p))
				if !areDeeds(second, want) || !areDeeds(Take(p, m), want) || !areDeeds(ticked, tick) || !areDeeds(Tick(p), tick) {
					t.Errorf("%s: Take of %s = %s, want %s", shown(p), named(m), said(second), said(want))
				}
				if !slices.Equal(p.Done, done) || memory(m.Packs) != packs {
					t.Errorf("%s: %s: what was handed in was changed", shown(p), named(m))
				}
			}
		}
	}
}

// The lists of one answer share no memory with one another, whatever the message's shared.
func TestListsOfOneAnswer(t *testing.T) {
	p := pack(1, "a", 5, 6)
	q := api.Pack{Owner: 2, Man: api.Manifest{Name: "b", Version: "1", Layers: p.Man.Layers}}
	for _, x := range []api.Part{part(1, 0), part(1, 0, 5)} {
		l := Take(x, prepare(1, 7, p, q))
		packs := l[len(l)-2].Packs
		refs := packs[0].Man.Layers
		for k := range refs[:cap(refs)] {
			refs[:cap(refs)][k] = api.Ref{Size: 99}
		}
		if !isPack(packs[1], q) || !isPack(p, pack(1, "a", 5, 6)) {
			t.Errorf("%v, %v", packs[1], p)
		}
		_ = append(refs, api.Ref{Size: 99})
		_ = append(packs, api.Pack{Owner: 99})
		if !isPack(packs[1], q) || !areDeeds(l[len(l)-1:], deeds("yes", x, 7, nil)) {
			t.Errorf("%s", said(l))
		}
	}
}

// What lies behind a list's length is not looked at, nor handed out, whatever it is.
func TestBehindTheLength(t *testing.T) {
	for _, behind := range []int{0, -1, 5, 7, 9, 1<<40 + 1} {
		for _, p := range parts(4) {
			q := p
			q.Done = roomyInts(p.Done, behind, behind)
			isGood(t, q, true)
			isTicked(t, q)
			for _, txn := range []int{5, 7, 9} {
				for _, m := range messages(4, txn) {
					if l := isTaken(t, q, m); !areDeeds(l, mustTake(p, m)) {
						t.Errorf("%s: Take of %s = %s", shown(p), named(m), said(l))
					}
				}
			}
		}
	}
	packs := append(wanted(), pack(0, "wrong", 5), pack(1, "a", 5))[:2]
	packs[1].Man.Layers = append(packs[1].Man.Layers, packs[1].Man.Layers[0])[:1] // a digest twice, but for the length
	l := Take(part(4, 0), prepare(4, 7, packs...))
	if len(l) != 2 || !arePacks(l[0].Packs, wanted()) {
		t.Fatalf("%s", said(l))
	}
	for _, d := range l[:cap(l)][len(l):] {
		if !isDeed(d, api.Deed{}) {
			t.Errorf("%s was handed out", said([]api.Deed{d}))
		}
	}
	for _, p := range l[0].Packs[:cap(l[0].Packs)][2:] {
		if !isPack(p, api.Pack{}) {
			t.Errorf("%v was handed out", p)
		}
	}
	for _, p := range l[0].Packs {
		for _, r := range p.Man.Layers[:cap(p.Man.Layers)][len(p.Man.Layers):] {
			if r != (api.Ref{}) {
				t.Errorf("%v was handed out", r)
			}
		}
	}
	for _, kind := range []int{api.MsCommit, api.MsAbort} {
		m := api.Msg{Kind: kind, To: 4, Txn: 7, Packs: packs[:0]}
		if l := isTaken(t, part(4, 7), m); len(l) == 0 {
			t.Errorf("Take of %s = nothing", named(m))
		}
	}
}
