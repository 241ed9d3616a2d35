package coord

import (
	"crypto/sha256"
	"fmt"
	"math"
	"math/rand"
	"slices"
	"strings"
	"testing"

	"veneer/api"
	"veneer/rootdb"
	"veneer/wire"
)

// The messages of each kind, of one root.

func prepare(root, txn int, l ...api.Pack) api.Msg {
	return api.Msg{Kind: api.MsPrepare, To: root, Txn: txn, Packs: l}
}

func commit(root, txn int) api.Msg { return api.Msg{Kind: api.MsCommit, To: root, Txn: txn} }

func abort(root, txn int) api.Msg { return api.Msg{Kind: api.MsAbort, To: root, Txn: txn} }

func yes(root, txn int) api.Msg {
	return api.Msg{Kind: api.MsVote, From: root, Txn: txn, Yes: true}
}

func no(root, txn int) api.Msg { return api.Msg{Kind: api.MsVote, From: root, Txn: txn} }

func ack(root, txn int) api.Msg { return api.Msg{Kind: api.MsAck, From: root, Txn: txn} }

func ask(root, txn int) api.Msg { return api.Msg{Kind: api.MsAsk, From: root, Txn: txn} }

// pack is a package whose layers have these sizes; ones are n packages of one layer each; wants what a transaction wants for a root: none, one or two packages; plans that for each of some roots.

func pack(owner int, name string, sizes ...int) api.Pack {
	p := api.Pack{Owner: owner, Man: api.Manifest{Name: name, Version: "1"}}
	for i, size := range sizes {
		p.Man.Layers = append(p.Man.Layers, api.Ref{Sum: sha256.Sum256([]byte(fmt.Sprint(name, " ", i))), Size: size})
	}
	return p
}

func ones(n int) []api.Pack {
	var l []api.Pack
	for i := range n {
		l = append(l, pack(1+i%8, fmt.Sprint("p", i), 5))
	}
	return l
}

func wants(root, txn int) []api.Pack {
	n := uint(root) + 10*uint(txn) // of what is no root and no transaction too
	name := fmt.Sprint("p", n%100000)
	return []api.Pack{pack(int(1+n%8), name, 5, int(n%7)), pack(2, name+"-b", int(n%9))}[:n%3]
}

func plans(txn int, roots ...int) []api.Plan {
	var l []api.Plan
	for _, root := range roots {
		l = append(l, api.Plan{Root: root, Packs: wants(root, txn)})
	}
	return l
}

// toEach is a message of a kind to each of some roots; prepares one with what a transaction wants for it.

func toEach(message func(root, txn int) api.Msg, txn int, roots ...int) []api.Msg {
	var l []api.Msg
	for _, root := range roots {
		l = append(l, message(root, txn))
	}
	return l
}

func prepares(txn int, roots ...int) []api.Msg {
	return toEach(func(root, txn int) api.Msg { return prepare(root, txn, wants(root, txn)...) }, txn, roots...)
}

func isPack(a, b api.Pack) bool {
	return a.Owner == b.Owner && a.Man.Name == b.Man.Name && a.Man.Version == b.Man.Version && slices.Equal(a.Man.Layers, b.Man.Layers)
}

func isMsg(a, b api.Msg) bool {
	isHead := a.Kind == b.Kind && a.From == b.From && a.To == b.To && a.Txn == b.Txn && a.Yes == b.Yes
	return isHead && slices.EqualFunc(a.Packs, b.Packs, isPack)
}

func areMsgs(a, b []api.Msg) bool { return slices.EqualFunc(a, b, isMsg) }

// named is messages as a short text.
func named(l ...api.Msg) string {
	kinds := []string{"kind 0", "prepare", "vote", "commit", "abort", "ack", "ask"}
	out := []string{}
	for _, m := range l {
		kind := fmt.Sprint("kind ", m.Kind)
		if m.Kind > 0 && m.Kind < len(kinds) {
			kind = kinds[m.Kind]
		}
		s := fmt.Sprintf("%s %d (%d to %d)", kind, m.Txn, m.From, m.To)
		if m.Yes {
			s += " yes"
		}
		for _, p := range m.Packs {
			s += fmt.Sprintf(" %d:%s(%d)", p.Owner, p.Man.Name, len(p.Man.Layers))
		}
		out = append(out, s)
	}
	return strings.Join(out, ", ")
}

func rightTxns() []int { return []int{1, 2, 7, 255, 256, 1 << 32, 1<<40 - 1, 1 << 40} }

func wrongTxns() []int {
	return []int{0, -1, -7, 1<<40 + 1, 1 << 41, 1<<40 + 7, math.MaxInt, math.MinInt, math.MinInt + 1, -(1 << 40)}
}

func wrongRoots() []int {
	return []int{0, 7, 8, -1, -6, 64, 255, 256, 257, 1 << 32, 1<<32 + 1, -1 << 32, math.MaxInt, math.MinInt}
}

// A model of coordinators: of each open transaction what was asked, and what came since; what it is follows from that. It is never changed: each deed makes another one.

type card struct {
	txn       int
	plans     []api.Plan
	ticks     int  // since it was begun
	isSure    bool // or recalled
	yes, acks []int
}

func (x card) state() int {
	switch {
	case x.isSure:
		return 3
	case len(x.yes) == len(x.plans):
		return 2
	}
	return 1
}

func (x card) roots() []int {
	var l []int
	for _, p := range x.plans {
		l = append(l, p.Root)
	}
	return l
}

func (x card) lacks() []int {
	came := x.yes
	if x.isSure {
		came = x.acks
	}
	return slices.DeleteFunc(x.roots(), func(root int) bool { return slices.Contains(came, root) })
}

// reminder is what is sent to those whose answer lacks.
func (x card) reminder() []api.Msg {
	if x.isSure {
		return toEach(commit, x.txn, x.lacks()...)
	}
	var l []api.Msg
	for _, p := range x.plans {
		if slices.Contains(x.lacks(), p.Root) {
			l = append(l, prepare(p.Root, x.txn, p.Packs...))
		}
	}
	return l
}

// deck is the cards in the order in which they were opened.
type deck struct {
	limit int
	cards []card
}

func (d deck) card(txn int) (card, bool) {
	for _, x := range d.cards {
		if x.txn == txn {
			return x, true
		}
	}
	return card{}, false
}

func (d deck) open() []int {
	var l []int
	for _, x := range d.cards {
		l = append(l, x.txn)
	}
	slices.Sort(l)
	return l
}

func (d deck) without(txn int) deck {
	d.cards = slices.DeleteFunc(slices.Clone(d.cards), func(x card) bool { return x.txn == txn })
	return d
}

func (d deck) with(x card) deck {
	d = d.without(x.txn)
	d.cards = append(d.cards, x)
	return d
}

// String tells all that may be seen of a deck, now or later.
func (d deck) String() string {
	out := fmt.Sprint("limit ", d.limit)
	for _, txn := range d.open() {
		x, _ := d.card(txn)
		out += fmt.Sprintf("; %d is %d, of %v, %v lack", txn, x.state(), x.roots(), x.lacks())
		if x.state() == 1 {
			out += fmt.Sprint(", age ", x.ticks, ", ", named(x.reminder()...))
		}
	}
	return out
}

// deed is a call that changes a coordinator.
type deed struct {
	name  string
	txn   int
	plans []api.Plan // of Begin; of Recall their roots
	m     api.Msg    // of Take
}

func (y deed) roots() []int { return card{plans: y.plans}.roots() }

func (y deed) String() string {
	switch y.name {
	case "Take":
		return "Take of " + named(y.m)
	case "Tick":
		return y.name
	case "Sure", "Quit":
		return fmt.Sprintf("%s(%d)", y.name, y.txn)
	}
	return fmt.Sprintf("%s(%d, %v)", y.name, y.txn, y.roots())
}

func begin(txn int, roots ...int) deed { return beginOf(txn, plans(txn, roots...)...) }

func beginOf(txn int, l ...api.Plan) deed { return deed{name: "Begin", txn: txn, plans: l} }

func recall(txn int, roots ...int) deed {
	y := deed{name: "Recall", txn: txn}
	for _, root := range roots {
		y.plans = append(y.plans, api.Plan{Root: root})
	}
	return y
}

func take(m api.Msg) deed { return deed{name: "Take", m: m} }

func sure(txn int) deed { return deed{name: "Sure", txn: txn} }

func quit(txn int) deed { return deed{name: "Quit", txn: txn} }

func tick() deed { return deed{name: "Tick"} }

// takes is the messages of a kind of each of some roots, taken one by one.
func takes(message func(root, txn int) api.Msg, txn int, roots ...int) []deed {
	var l []deed
	for _, m := range toEach(message, txn, roots...) {
		l = append(l, take(m))
	}
	return l
}

// answer is what a call answers: what Take says of one transaction, and who is gone by a tick.
type answer struct {
	e                api.Errno
	out              []api.Msg
	log, close, gone int
	all              []int
}

func (a answer) is(b answer) bool {
	return a.e == b.e && areMsgs(a.out, b.out) && a.log == b.log && a.close == b.close && a.gone == b.gone && slices.Equal(a.all, b.all)
}

func (a answer) String() string {
	var l []string
	if a.e != api.OK {
		l = append(l, fmt.Sprint("error ", int(a.e)))
	}
	if len(a.out) > 0 {
		l = append(l, named(a.out...))
	}
	for _, x := range []struct {
		name string
		n    int
	}{{"log", a.log}, {"close", a.close}, {"gone", a.gone}} {
		if x.n != 0 {
			l = append(l, fmt.Sprint(x.name, " ", x.n))
		}
	}
	for _, txn := range a.all {
		l = append(l, fmt.Sprint("gone ", txn))
	}
	return strings.Join(l, ", ")
}

// plan is what a deed must make of a deck, and what it must answer.
func (y deed) plan(d deck) (deck, answer) {
	x, isOpen := d.card(y.txn)
	switch y.name {
	case "Begin", "Recall":
		if e := y.wrong(isOpen); e != api.OK {
			return d, answer{e: e}
		}
		x = card{txn: y.txn, plans: y.plans, isSure: y.name == "Recall"}
		return d.with(x), answer{out: x.reminder()}
	case "Take":
		return y.planOfTake(d)
	case "Sure":
		if x.state() != 2 || !isOpen {
			return d, answer{e: 11}
		}
		x.isSure = true
		return d.with(x), answer{out: toEach(commit, x.txn, x.roots()...)}
	case "Quit":
		if !isOpen || x.isSure {
			return d, answer{e: 11}
		}
		return d.without(x.txn), answer{out: toEach(abort, x.txn, x.roots()...)}
	}
	var a answer // of Tick
	for _, txn := range d.open() {
		x, _ := d.card(txn)
		x.ticks++
		d = d.with(x)
		if x.state() == 1 && x.ticks == d.limit {
			d = d.without(txn)
			a.out, a.all = append(a.out, toEach(abort, txn, x.roots()...)...), append(a.all, txn)
		} else {
			a.out = append(a.out, x.reminder()...)
		}
	}
	return d, a
}

// wrong is the first of the chapter's faults of Begin and Recall, one by one.
func (y deed) wrong(isOpen bool) api.Errno {
	roots := y.roots()
	packs := api.OK
	for _, p := range y.plans {
		if e := rootdb.Check(p.Packs); e != api.OK && packs == api.OK {
			packs = e
		}
	}
	for _, x := range []struct {
		is bool
		e  api.Errno
	}{
		{y.txn < 1 || y.txn > 1<<40, 2},
		{slices.ContainsFunc(roots, func(root int) bool { return !slices.Contains([]int{1, 2, 3, 4, 5, 6}, root) }), 2},
		{!slices.IsSorted(roots) || len(slices.Compact(slices.Clone(roots))) != len(roots), 2},
		{len(roots) == 0, 9},
		{packs != api.OK, packs},
		{isOpen, 8},
	} {
		if x.is {
			return x.e
		}
	}
	return 0
}

// planOfTake goes by the kind of the message and by what its transaction is for its root: 0, if it is not known or has no such root.
func (y deed) planOfTake(d deck) (deck, answer) {
	m := y.m
	if wire.Check(m) != api.OK || m.To != 0 {
		return d, answer{}
	}
	x, isOpen := d.card(m.Txn)
	state := 0
	if isOpen && slices.Contains(x.roots(), m.From) {
		state = x.state()
	}
	switch [3]any{m.Kind, state, m.Yes} {
	case [3]any{2, 0, true}, [3]any{6, 0, false}:
		return d, answer{out: []api.Msg{abort(m.From, m.Txn)}}
	case [3]any{2, 3, true}, [3]any{2, 3, false}, [3]any{6, 3, false}:
		return d, answer{out: []api.Msg{commit(m.From, m.Txn)}}
	case [3]any{2, 1, false}:
		others := slices.DeleteFunc(x.roots(), func(root int) bool { return root == m.From })
		return d.without(m.Txn), answer{out: toEach(abort, m.Txn, others...), gone: m.Txn}
	case [3]any{2, 1, true}:
		x.yes = added(x.yes, m.From)
		if len(x.lacks()) == 0 {
			return d.with(x), answer{log: m.Txn}
		}
		return d.with(x), answer{}
	case [3]any{5, 3, false}:
		x.acks = added(x.acks, m.From)
		if len(x.lacks()) == 0 {
			return d.without(m.Txn), answer{close: m.Txn}
		}
		return d.with(x), answer{}
	}
	return d, answer{}
}

// added is a list in new memory that has a number once.
func added(l []int, n int) []int {
	if slices.Contains(l, n) {
		return l
	}
	return append(slices.Clip(slices.Clone(l)), n)
}

func (y deed) on(c *Coord) (a answer) {
	switch y.name {
	case "Begin":
		a.out, a.e = c.Begin(y.txn, y.plans)
	case "Recall":
		a.out, a.e = c.Recall(y.txn, y.roots())
	case "Take":
		said := c.Take(y.m)
		a.out, a.log, a.close, a.gone = said.Out, said.Log, said.Close, said.Gone
	case "Sure":
		a.out, a.e = c.Sure(y.txn)
	case "Quit":
		a.out, a.e = c.Quit(y.txn)
	case "Tick":
		a.out, a.all = c.Tick()
	}
	return a
}

// isCoord fails where a coordinator tells anything else than a deck has: of those that are open, of those beside them, and of what is no transaction.
func isCoord(t *testing.T, c *Coord, d deck, why string) {
	t.Helper()
	if l := c.Open(); !slices.Equal(l, d.open()) {
		t.Fatalf("%s: Open is %v, of %v", why, l, d)
	}
	asked := append(wrongTxns(), 1, 2, 3, 7, 1<<40)
	for _, txn := range d.open() {
		asked = append(asked, txn-1, txn, txn+1)
	}
	for _, txn := range asked {
		state, lacks := 0, []int(nil)
		if x, ok := d.card(txn); ok {
			state, lacks = x.state(), x.lacks()
		}
		if s, l := c.State(txn), c.Lacks(txn); s != state || !slices.Equal(l, lacks) {
			t.Fatalf("%s: State(%d) is %d, %v lack, of %v", why, txn, s, l, d)
		}
	}
}

// both is a coordinator, and what it must know.
type both struct {
	c *Coord
	d deck
}

func fresh(limit int) *both { return &both{New(limit), deck{limit: limit}} }

// run is a coordinator behind these deeds, none of which is refused.
func run(t *testing.T, limit int, deeds ...deed) *both {
	t.Helper()
	x := fresh(limit)
	x.must(t, deeds...)
	return x
}

// do does a deed, and fails where the answer, or what the coordinator knows then, is not as the chapter says.
func (x *both) do(t *testing.T, y deed) answer {
	t.Helper()
	a := x.quick(t, y)
	isCoord(t, x.c, x.d, fmt.Sprint("behind ", y))
	return a
}

// quick does a deed, and looks at the answer alone.
func (x *both) quick(t *testing.T, y deed) answer {
	t.Helper()
	next, want := y.plan(x.d)
	if a := y.on(x.c); !a.is(want) {
		t.Fatalf("%v = %v, want %v, of %v", y, a, want, x.d)
	}
	x.d = next
	return want
}

func (x *both) must(t *testing.T, deeds ...deed) {
	t.Helper()
	x.answers(t, api.OK, deeds...)
}

func (x *both) answers(t *testing.T, want api.Errno, deeds ...deed) {
	t.Helper()
	for _, y := range deeds {
		if a := x.do(t, y); a.e != want {
			t.Fatalf("%v = %d, want %d", y, int(a.e), int(want))
		}
	}
}

// says does a deed, and fails where the answer's text is another one.
func (x *both) says(t *testing.T, y deed, want string) {
	t.Helper()
	if a := x.do(t, y); a.String() != want {
		t.Errorf("%v = %v, want %s", y, a, want)
	}
}

// deeds puts rows of them together.
func deeds(rows ...[]deed) []deed { return slices.Concat(rows...) }

// way is how transaction 7 of the roots 1, 3 and 6 comes to be in a state.
type way struct {
	name  string
	deeds []deed
	state int
	lacks []int
}

// limit is that of the coordinators that go the ways.
const limit = 4

func ways() []way {
	begun := []deed{begin(7, 1, 3, 6)}
	logging := deeds(begun, takes(yes, 7, 6, 1, 3))
	committed := deeds(logging, []deed{sure(7)})
	recalled := []deed{recall(7, 1, 3, 6)}
	ticks := slices.Repeat([]deed{tick()}, limit)
	three := []int{1, 3, 6}
	return []way{
		{"never known", nil, 0, nil},
		{"voting, no vote", begun, 1, three},
		{"voting, the first one's vote", deeds(begun, takes(yes, 7, 1)), 1, []int{3, 6}},
		{"voting, the last one's vote", deeds(begun, takes(yes, 7, 6)), 1, []int{1, 3}},
		{"voting, one lacks", deeds(begun, takes(yes, 7, 3, 6)), 1, []int{1}},
		{"voting, just ahead of the limit", deeds(begun, ticks[1:]), 1, three},
		{"logging", logging, 2, nil},
		{"logging for long", deeds(logging, ticks, ticks), 2, nil},
		{"logging, voted just ahead of the limit", deeds(begun, ticks[1:], logging[1:], ticks), 2, nil},
		{"committed", committed, 3, three},
		{"committed for long", deeds(committed, ticks, ticks), 3, three},
		{"committed, the first one's ack", deeds(committed, takes(ack, 7, 1)), 3, []int{3, 6}},
		{"committed, one lacks", deeds(committed, takes(ack, 7, 6, 1)), 3, []int{3}},
		{"recalled", recalled, 3, three},
		{"recalled for long, one ack", deeds(recalled, ticks, takes(ack, 7, 3), ticks), 3, []int{1, 6}},
		{"closed", deeds(committed, takes(ack, 7, 1, 6, 3)), 0, nil},
		{"recalled and closed", deeds(recalled, takes(ack, 7, 3, 6, 1)), 0, nil},
		{"gone by a no", deeds(begun, takes(yes, 7, 1), takes(no, 7, 3)), 0, nil},
		{"gone by ticks", deeds(begun, takes(yes, 7, 1), ticks), 0, nil},
		{"quit while voting", deeds(begun, takes(yes, 7, 3), []deed{quit(7)}), 0, nil},
		{"quit while logging", deeds(logging, []deed{quit(7)}), 0, nil},
		{"begun again behind a no", deeds(begun, ticks[1:], takes(yes, 7, 1, 3), takes(no, 7, 3), begun), 1, three},
		{"begun again behind the limit", deeds(begun, takes(yes, 7, 1), ticks, begun, takes(yes, 7, 3)), 1, []int{1, 6}},
		{"begun again behind its end", deeds(committed, takes(ack, 7, 1, 6, 3), begun), 1, three},
		{"recalled behind its end", deeds(recalled, takes(ack, 7, 1, 3, 6), recalled), 3, three},
		{"recalled behind a quit", deeds(logging, []deed{quit(7)}, recalled, takes(ack, 7, 1)), 3, []int{3, 6}},
	}
}

// others are transactions that are open beside 7: below it and above it, on its roots and on other ones, in each state.
func others() []deed {
	l := []deed{begin(3, 1, 2), recall(5, 3), begin(1<<40, 6), begin(9, 1, 3, 6), recall(11, 1, 2, 3, 4, 5, 6), begin(12, 4, 5)}
	return deeds(l, takes(yes, 9, 1, 3, 6), takes(ack, 11, 3), takes(yes, 12, 5), takes(yes, 3, 1))
}

// each runs a test behind each way, alone and beside others. The others are younger than 7, and the ticks' limit is not theirs.
func each(t *testing.T, test func(t *testing.T, w way, x *both)) {
	t.Helper()
	for _, w := range ways() {
		t.Run(w.name, func(t *testing.T) {
			test(t, w, run(t, limit, w.deeds...))
			test(t, w, run(t, limit, deeds(w.deeds, others())...))
		})
	}
}

func TestTheExample(t *testing.T) {
	c := New(3)
	if l, e := c.Begin(7, plans(7, 1, 2)); e != api.OK || !areMsgs(l, prepares(7, 1, 2)) {
		t.Errorf("%s, %d", named(l...), int(e))
	}
	is := func(m api.Msg, want api.Said) {
		t.Helper()
		if s := c.Take(m); !areMsgs(s.Out, want.Out) || s.Log != want.Log || s.Close != want.Close || s.Gone != want.Gone {
			t.Errorf("%s: %v, want %v", named(m), s, want)
		}
	}
	is(yes(1, 7), api.Said{})
	is(yes(2, 7), api.Said{Log: 7})
	if l, e := c.Sure(7); e != api.OK || !areMsgs(l, []api.Msg{commit(1, 7), commit(2, 7)}) {
		t.Errorf("%s, %d", named(l...), int(e))
	}
	is(ack(1, 7), api.Said{})
	is(ack(2, 7), api.Said{Close: 7})
	is(ask(2, 9), api.Said{Out: []api.Msg{abort(2, 9)}})
}

// A whole row of calls, by hand.
func TestByHand(t *testing.T) {
	x := fresh(3)
	wanted := []api.Pack{pack(1, "a", 5)}
	x.says(t, beginOf(7, api.Plan{Root: 2, Packs: wanted}, api.Plan{Root: 5}), "prepare 7 (0 to 2) 1:a(1), prepare 7 (0 to 5)")
	x.says(t, recall(4, 1, 6), "commit 4 (0 to 1), commit 4 (0 to 6)")
	x.says(t, begin(7, 1), "error 8")
	x.says(t, take(yes(5, 7)), "")
	x.says(t, tick(), "commit 4 (0 to 1), commit 4 (0 to 6), prepare 7 (0 to 2) 1:a(1)")
	x.says(t, sure(7), "error 11")
	x.says(t, take(ack(1, 4)), "")
	x.says(t, tick(), "commit 4 (0 to 6), prepare 7 (0 to 2) 1:a(1)")
	x.says(t, take(yes(2, 7)), "log 7")
	x.says(t, take(no(2, 7)), "")
	x.says(t, tick(), "commit 4 (0 to 6)")
	x.says(t, sure(7), "commit 7 (0 to 2), commit 7 (0 to 5)")
	x.says(t, quit(7), "error 11")
	x.says(t, beginOf(5, api.Plan{Root: 1, Packs: wanted}, api.Plan{Root: 2}, api.Plan{Root: 4}), "prepare 5 (0 to 1) 1:a(1), prepare 5 (0 to 2), prepare 5 (0 to 4)")
	x.says(t, tick(), "commit 4 (0 to 6), prepare 5 (0 to 1) 1:a(1), prepare 5 (0 to 2), prepare 5 (0 to 4), commit 7 (0 to 2), commit 7 (0 to 5)")
	x.says(t, take(ask(5, 7)), "commit 7 (0 to 5)")
	x.says(t, take(ack(5, 7)), "")
	x.says(t, take(no(5, 7)), "commit 7 (0 to 5)")
	x.says(t, take(ack(6, 4)), "close 4")
	x.says(t, take(no(2, 5)), "abort 5 (0 to 1), abort 5 (0 to 4), gone 5")
	x.says(t, take(yes(4, 5)), "abort 5 (0 to 4)")
	x.says(t, take(no(1, 5)), "")
	x.says(t, tick(), "commit 7 (0 to 2)")
	x.says(t, take(ack(2, 7)), "close 7")
	x.says(t, take(ask(2, 7)), "abort 7 (0 to 2)")
	x.says(t, tick(), "")
	x.says(t, beginOf(8, api.Plan{Root: 3}), "prepare 8 (0 to 3)")
	x.says(t, quit(8), "abort 8 (0 to 3)")
	x.says(t, beginOf(8, api.Plan{Root: 3}), "prepare 8 (0 to 3)")
	x.says(t, tick(), "prepare 8 (0 to 3)")
	x.says(t, tick(), "prepare 8 (0 to 3)")
	x.says(t, tick(), "abort 8 (0 to 3), gone 8")
}

// P15.1: New

func TestNew(t *testing.T) {
	for _, limit := range []int{0, 1001, -1, -2, 1002, -1000, 2000, 1 << 32, 1<<32 + 1, 1<<32 + 1000, -1 << 32, math.MaxInt, math.MinInt, math.MinInt + 1} {
		if New(limit) != nil {
			t.Errorf("New(%d) is not nil", limit)
		}
	}
	for _, limit := range []int{1, 2, 3, 255, 256, 257, 500, 999, 1000} {
		x := fresh(limit)
		if x.c == nil {
			t.Fatalf("New(%d) is nil", limit)
		}
		isCoord(t, x.c, x.d, "new")
		x.says(t, tick(), "")
		for _, y := range []deed{sure(7), quit(7), take(no(1, 7)), take(ack(1, 7)), take(yes(1, 7)), take(ask(1, 7)), begin(7)} {
			x.do(t, y)
		}
		isCoord(t, x.c, x.d, "still new")
	}
}

func TestEveryLimit(t *testing.T) {
	for limit := 1; limit <= 1000; limit++ {
		x := fresh(limit)
		if limit%100 != 0 && limit > 20 {
			x.quick(t, begin(7, 2))
			for range limit {
				x.quick(t, tick())
			}
		} else {
			x.must(t, begin(7, 2), recall(8, 2))
			for range limit {
				x.must(t, tick())
			}
		}
		if _, ok := x.d.card(7); ok || x.c.State(7) != 0 {
			t.Errorf("it is known behind %d ticks", limit)
		}
	}
}

// Coordinators share nothing.
func TestTwoCoordinators(t *testing.T) {
	x, y := run(t, 2, begin(7, 1, 2)), run(t, 3, begin(7, 2, 3))
	x.must(t, take(yes(1, 7)), tick())
	isCoord(t, y.c, y.d, "the other one was changed")
	y.must(t, take(no(2, 7)))
	isCoord(t, x.c, x.d, "the other one was changed")
	x.says(t, tick(), "abort 7 (0 to 1), abort 7 (0 to 2), gone 7")
}

// P15.2: Begin, Recall

func TestBeginAndRecall(t *testing.T) {
	rows := [][]int{{1}, {6}, {3}, {1, 2}, {1, 6}, {5, 6}, {2, 3, 5}, {1, 2, 3, 4, 5}, {2, 3, 4, 5, 6}, {1, 2, 3, 4, 5, 6}}
	for _, txn := range rightTxns() {
		for _, roots := range rows {
			x := fresh(5)
			if a := x.do(t, begin(txn, roots...)); a.e != api.OK || !areMsgs(a.out, prepares(txn, roots...)) || x.c.State(txn) != api.CoVoting || !slices.Equal(x.c.Lacks(txn), roots) {
				t.Errorf("Begin(%d, %v) = %v", txn, roots, a)
			}
			x = fresh(5)
			if a := x.do(t, recall(txn, roots...)); a.e != api.OK || !areMsgs(a.out, toEach(commit, txn, roots...)) || x.c.State(txn) != api.CoCommitted || !slices.Equal(x.c.Lacks(txn), roots) {
				t.Errorf("Recall(%d, %v) = %v", txn, roots, a)
			}
		}
	}
}

// Each set of roots, and each list of up to four numbers from 0 to 7.
func TestAllRoots(t *testing.T) {
	for bits := 1; bits < 64; bits++ {
		var roots []int
		for root := 1; root <= 6; root++ {
			if bits>>(root-1)&1 == 1 {
				roots = append(roots, root)
			}
		}
		x := run(t, 5, begin(7, roots...), recall(8, roots...))
		x.must(t, tick())
	}
	told := map[api.Errno]int{}
	var from func(roots []int)
	from = func(roots []int) {
		x := fresh(5)
		for _, y := range []deed{begin(7, roots...), recall(8, roots...)} {
			told[x.do(t, y).e]++
		}
		for root := range 8 {
			if len(roots) < 4 {
				from(append(slices.Clip(slices.Clone(roots)), root))
			}
		}
	}
	from(nil)
	if right := 2 * (6 + 15 + 20 + 15); told[api.OK] != right || told[api.ErrNone] != 2 || told[api.ErrArg] != 2*(1+8+64+512+4096)-right-2 {
		t.Errorf("%v", told)
	}
}

func TestWrongTxns(t *testing.T) {
	for _, x := range []*both{fresh(5), run(t, 5, others()...)} {
		for _, txn := range wrongTxns() {
			x.answers(t, api.ErrArg, begin(txn, 1), recall(txn, 1), begin(txn, 1, 2, 3, 4, 5, 6), begin(txn), recall(txn))
			x.answers(t, api.ErrArg, beginOf(txn, api.Plan{Root: 1, Packs: ones(17)}))
		}
	}
}

func TestWrongRoots(t *testing.T) {
	for _, x := range []*both{fresh(5), run(t, 5, others()...)} {
		for _, root := range wrongRoots() {
			rows := [][]int{{root}, {1, root}, {root, 1}, {1, 2, 3, 4, 5, 6, root}, {root, 1, 2, 3, 4, 5, 6}, {1, 2, root, 3}, {root, root}}
			for _, roots := range rows {
				x.answers(t, api.ErrArg, begin(7, roots...), recall(7, roots...))
			}
		}
		for _, roots := range [][]int{{1, 1}, {6, 6}, {2, 1}, {6, 1}, {1, 3, 2}, {1, 2, 2}, {1, 1, 2}, {1, 2, 1}, {2, 1, 3}, {6, 5, 4, 3, 2, 1}, {1, 2, 3, 4, 6, 5}, {1, 2, 3, 4, 5, 6, 6}, {1, 2, 3, 4, 5, 6, 1}, {1, 1, 2, 3, 4, 5, 6}} {
			x.answers(t, api.ErrArg, begin(7, roots...), recall(7, roots...))
		}
		x.answers(t, api.ErrArg, begin(7, slices.Repeat([]int{3}, 1000)...), recall(7, slices.Repeat([]int{3}, 1000)...))
	}
}

func TestNoRoots(t *testing.T) {
	for _, x := range []*both{fresh(5), run(t, 5, others()...)} {
		for _, txn := range rightTxns() {
			x.answers(t, api.ErrNone, begin(txn), recall(txn))
		}
		for _, open := range x.d.open() {
			x.answers(t, api.ErrNone, begin(open), recall(open)) // ahead of that it is open
		}
		if _, e := x.c.Begin(7, []api.Plan{}); e != api.ErrNone {
			t.Error(int(e))
		}
		if _, e := x.c.Recall(7, []int{}); e != api.ErrNone {
			t.Error(int(e))
		}
		isCoord(t, x.c, x.d, "refused")
	}
}

// wrongPacks are packages that a plan may not have, for each of rootdb.Check's reasons, with its error.
func wrongPacks() map[string]struct {
	l []api.Pack
	e api.Errno
} {
	twice := pack(1, "a", 5, 6)
	twice.Man.Layers[1].Sum = twice.Man.Layers[0].Sum
	noVersion := pack(1, "a", 5)
	noVersion.Man.Version = ""
	eight := make([]int, 8)
	return map[string]struct {
		l []api.Pack
		e api.Errno
	}{
		"an owner 0":               {[]api.Pack{pack(0, "a", 5)}, api.ErrArg},
		"an owner 9":               {[]api.Pack{pack(9, "a", 5)}, api.ErrArg},
		"an owner -1":              {[]api.Pack{pack(-1, "a", 5)}, api.ErrArg},
		"nothing":                  {[]api.Pack{{}}, api.ErrArg},
		"no name":                  {[]api.Pack{pack(1, "", 5)}, api.ErrArg},
		"a name of 17 bytes":       {[]api.Pack{pack(1, strings.Repeat("a", 17), 5)}, api.ErrArg},
		"no version":               {[]api.Pack{noVersion}, api.ErrArg},
		"no layers":                {[]api.Pack{pack(1, "a")}, api.ErrNone},
		"9 layers":                 {[]api.Pack{pack(1, "a", make([]int, 9)...)}, api.ErrBig},
		"a size below 0":           {[]api.Pack{pack(1, "a", 5, -1)}, api.ErrArg},
		"a digest twice":           {[]api.Pack{twice}, api.ErrThere},
		"a name twice":             {[]api.Pack{pack(1, "a", 5), pack(2, "b", 5), pack(3, "a", 6)}, api.ErrThere},
		"17 packages":              {ones(17), api.ErrBig},
		"17 layers":                {[]api.Pack{pack(1, "a", eight...), pack(1, "b", eight...), pack(1, "c", 5)}, api.ErrBig},
		"no layers, then no owner": {[]api.Pack{pack(1, "a"), pack(0, "b", 5)}, api.ErrNone},
		"the last has no owner":    {append(ones(15), pack(9, "b", 5)), api.ErrArg},
	}
}

func TestWrongPlans(t *testing.T) {
	for name, w := range wrongPacks() {
		if e := rootdb.Check(w.l); e != w.e {
			t.Errorf("%s: rootdb.Check = %d, want %d", name, int(e), int(w.e))
		}
		x := run(t, 5, others()...)
		for at := range 6 { // the plan that is wrong is the first, a later one, the last
			l := plans(7, 1, 2, 3, 4, 5, 6)
			l[at].Packs = w.l
			x.answers(t, w.e, beginOf(7, l...), beginOf(7, l[at:]...), beginOf(7, l[:at+1]...), beginOf(7, l[at]))
			l[at].Packs = nil
			y := run(t, 5, beginOf(7, l...))
			y.must(t, tick())
		}
	}
}

// The first plan that is wrong is told, whatever is wrong with later ones.
func TestTheFirstWrongPlan(t *testing.T) {
	x := fresh(5)
	for one, a := range wrongPacks() {
		for other, b := range wrongPacks() {
			l := plans(7, 1, 2, 4, 6)
			l[1].Packs, l[3].Packs = a.l, b.l
			if e := x.do(t, beginOf(7, l...)).e; e != a.e {
				t.Errorf("%s, then %s: %d", one, other, int(e))
			}
		}
	}
}

// The greatest plans that may be: sixteen packages, or two of eight layers, for each root.
func TestGreatPlans(t *testing.T) {
	eight := make([]int, 8)
	for _, l := range [][]api.Pack{ones(16), {pack(8, strings.Repeat("a", 16), eight...), pack(8, "b", eight...)}} {
		var all []api.Plan
		for root := 1; root <= 6; root++ {
			all = append(all, api.Plan{Root: root, Packs: l})
		}
		x := run(t, 5, beginOf(7, all...))
		x.must(t, take(yes(3, 7)), tick(), tick())
	}
}

func TestOfOneThatIsOpen(t *testing.T) {
	each(t, func(t *testing.T, w way, x *both) {
		for _, y := range []deed{begin(7, 1, 3, 6), begin(7, 2), recall(7, 1, 3, 6), recall(7, 5, 6)} {
			if w.state != 0 {
				x.answers(t, api.ErrThere, y)
			}
		}
		if w.state == 0 {
			x.must(t, begin(7, 2, 5))
			x.answers(t, api.ErrThere, begin(7, 2, 5), recall(7, 2, 5))
			x.must(t, quit(7), recall(7, 1))
			x.answers(t, api.ErrThere, begin(7, 1), recall(7, 1))
		}
		for _, txn := range []int{6, 8} {
			x.must(t, begin(txn, 1, 3, 6))
		}
	})
}

// Where there is more than one fault: each of them beside each other one.
func TestWhichErrorIsTold(t *testing.T) {
	rows := [][]int{nil, {1}, {1, 2}, {2, 1}, {1, 1}, {0}, {7}, {0, 1}, {6, 7}, {7, 6}, {math.MinInt, 1}}
	packs := [][]api.Pack{nil, ones(1), ones(17), {pack(0, "a", 5)}, {pack(1, "a")}, {pack(1, "a", 5), pack(1, "a", 5)}}
	told := map[string]int{}
	for _, txn := range append(wrongTxns(), 3, 5, 9, 7, 1, 1<<40) {
		for _, roots := range rows {
			x := run(t, 5, others()...)
			told[fmt.Sprint("Recall ", int(x.do(t, recall(txn, roots...)).e))]++
			for _, first := range packs {
				for _, last := range packs {
					var l []api.Plan
					for i, root := range roots {
						l = append(l, api.Plan{Root: root, Packs: [][]api.Pack{first, last}[i]})
					}
					x := run(t, 5, others()...)
					told[fmt.Sprint("Begin ", int(x.do(t, beginOf(txn, l...)).e))]++
				}
			}
		}
	}
	for _, name := range []string{"Recall 0", "Recall 2", "Recall 8", "Recall 9", "Begin 0", "Begin 2", "Begin 3", "Begin 8", "Begin 9"} {
		if told[name] < 2 {
			t.Errorf("%s: %d times, of %v", name, told[name], told)
		}
	}
}

// By hand: the errors in their order, each with all behind it.
func TestErrorsInOrder(t *testing.T) {
	c := New(5)
	c.Recall(7, []int{1})
	wrong := []api.Plan{{Root: 1, Packs: ones(17)}}
	for i, x := range []struct {
		txn  int
		l    []api.Plan
		want api.Errno
	}{
		{0, nil, api.ErrArg}, {0, wrong, api.ErrArg}, {1<<40 + 1, nil, api.ErrArg},
		{7, []api.Plan{{Root: 0, Packs: ones(17)}}, api.ErrArg}, {7, append([]api.Plan{{Root: 2}}, wrong...), api.ErrArg},
		{7, nil, api.ErrNone}, {7, wrong, api.ErrBig}, {7, []api.Plan{{Root: 1}}, api.ErrThere}, {8, wrong, api.ErrBig}, {8, nil, api.ErrNone},
	} {
		if l, e := c.Begin(x.txn, x.l); e != x.want || len(l) != 0 {
			t.Errorf("Begin %d: %s, %d, want %d", i, named(l...), int(e), int(x.want))
		}
	}
	for i, x := range []struct {
		txn  int
		l    []int
		want api.Errno
	}{{0, nil, api.ErrArg}, {7, []int{7}, api.ErrArg}, {7, []int{2, 1}, api.ErrArg}, {7, nil, api.ErrNone}, {7, []int{1}, api.ErrThere}, {8, nil, api.ErrNone}} {
		if l, e := c.Recall(x.txn, x.l); e != x.want || len(l) != 0 {
			t.Errorf("Recall %d: %s, %d, want %d", i, named(l...), int(e), int(x.want))
		}
	}
	if l := c.Open(); !slices.Equal(l, []int{7}) {
		t.Error(l)
	}
}

// P15.3: Take

// What each kind of message must say at each state, by hand: first of a root that the transaction has, then of one that it has not.
func TestTakeByHand(t *testing.T) {
	for _, x := range []struct {
		states string // by the beginning of a way's name
		root   int
		m      func(root, txn int) api.Msg
		want   string
	}{
		{"never", 3, yes, "abort 7 (0 to 3)"}, {"never", 3, no, ""}, {"never", 3, ack, ""}, {"never", 3, ask, "abort 7 (0 to 3)"},
		{"closed", 3, yes, "abort 7 (0 to 3)"}, {"closed", 3, no, ""}, {"closed", 3, ack, ""}, {"closed", 3, ask, "abort 7 (0 to 3)"},
		{"gone", 3, yes, "abort 7 (0 to 3)"}, {"gone", 3, no, ""}, {"gone", 3, ack, ""}, {"gone", 3, ask, "abort 7 (0 to 3)"},
		{"quit", 3, yes, "abort 7 (0 to 3)"}, {"quit", 3, no, ""}, {"quit", 3, ack, ""}, {"quit", 3, ask, "abort 7 (0 to 3)"},
		{"voting, no vote", 3, yes, ""}, {"voting, just ahead", 3, yes, ""}, {"begun again", 1, yes, ""},
		{"voting, the first", 1, yes, ""}, {"voting, one lacks", 6, yes, ""}, {"voting, one lacks", 1, yes, "log 7"},
		{"voting", 3, no, "abort 7 (0 to 1), abort 7 (0 to 6), gone 7"}, {"begun again", 1, no, "abort 7 (0 to 3), abort 7 (0 to 6), gone 7"},
		{"voting", 6, no, "abort 7 (0 to 1), abort 7 (0 to 3), gone 7"}, {"voting", 3, ack, ""}, {"voting", 3, ask, ""},
		{"logging", 3, yes, ""}, {"logging", 3, no, ""}, {"logging", 3, ack, ""}, {"logging", 3, ask, ""},
		{"committed", 3, yes, "commit 7 (0 to 3)"}, {"committed", 1, no, "commit 7 (0 to 1)"}, {"committed", 6, ask, "commit 7 (0 to 6)"},
		{"recalled for", 3, yes, "commit 7 (0 to 3)"}, {"recalled for", 1, no, "commit 7 (0 to 1)"}, {"recalled for", 3, ask, "commit 7 (0 to 3)"},
		{"committed, the first", 1, ack, ""}, {"committed, the first", 3, ack, ""}, {"committed, one lacks", 1, ack, ""},
		{"committed, one lacks", 3, ack, "close 7"}, {"recalled for", 1, ack, ""},
		{"", 2, yes, "abort 7 (0 to 2)"}, {"", 4, no, ""}, {"", 2, ack, ""}, {"", 5, ask, "abort 7 (0 to 5)"},
	} {
		found := 0
		for _, w := range ways() {
			if strings.HasPrefix(w.name, x.states) {
				found++
				run(t, limit, w.deeds...).says(t, take(x.m(x.root, 7)), x.want)
				run(t, limit, deeds(w.deeds, others())...).says(t, take(x.m(x.root, 7)), x.want)
			}
		}
		if found == 0 {
			t.Errorf("no state is %q", x.states)
		}
	}
}

// Each kind of message of each root, at each state; and each of two, one behind the other.
func TestTakeAtEachState(t *testing.T) {
	var all []deed
	for _, m := range []func(root, txn int) api.Msg{yes, no, ack, ask} {
		all = append(all, takes(m, 7, 1, 2, 3, 4, 5, 6)...)
	}
	told := map[string]int{}
	for _, w := range ways() {
		for _, y := range all {
			a := run(t, limit, deeds(w.deeds, others())...).do(t, y)
			told[fmt.Sprint(len(a.out), a.log != 0, a.close != 0, a.gone != 0)]++
			for _, z := range all {
				x := run(t, limit, w.deeds...)
				x.quick(t, y)
				x.do(t, z)
				x.do(t, tick())
			}
		}
	}
	for _, name := range []string{"0 false false false", "1 false false false", "0 true false false", "0 false true false", "2 false false true"} {
		if told[name] == 0 {
			t.Errorf("%s: %d times, of %v", name, told[name], told)
		}
	}
}

// Votes and acks of all roots in each order, with doubles.
func TestAllOrdersOfAnswers(t *testing.T) {
	for _, votes := range orders(1, 2, 4, 5) {
		for _, acks := range orders(1, 2, 4, 5) {
			x := run(t, 2, begin(7, 1, 2, 4, 5))
			for i, root := range votes {
				want := ""
				if i == 3 {
					want = "log 7"
				}
				x.says(t, take(yes(root, 7)), want)
				x.says(t, take(yes(votes[i/2], 7)), "")
			}
			x.must(t, sure(7))
			for i, root := range acks {
				want := ""
				if i == 3 {
					want = "close 7"
				}
				x.says(t, take(ack(root, 7)), want)
				x.says(t, take(ack(acks[i/2], 7)), "")
			}
		}
	}
}

func orders(l ...int) [][]int {
	if len(l) == 0 {
		return [][]int{nil}
	}
	var out [][]int
	for i, n := range l {
		for _, rest := range orders(slices.Concat(l[:i], l[i+1:])...) {
			out = append(out, append([]int{n}, rest...))
		}
	}
	return out
}

// A no as the first vote, a later one and the last one, of one to six roots.
func TestNo(t *testing.T) {
	for n := 1; n <= 6; n++ {
		roots := []int{1, 2, 3, 4, 5, 6}[6-n:]
		for at, root := range roots {
			for votes := range n {
				x := run(t, 5, begin(7, roots...), recall(8, 1))
				voters := slices.Concat(roots[:at], roots[at+1:])
				x.must(t, takes(yes, 7, voters[:votes]...)...)
				others := toEach(abort, 7, voters...)
				if a := x.do(t, take(no(root, 7))); !a.is(answer{out: others, gone: 7}) {
					t.Errorf("the no of %d of %v behind %d votes: %v", root, roots, votes, a)
				}
				x.says(t, take(no(root, 7)), "")
				x.says(t, take(yes(root, 7)), named(abort(root, 7)))
			}
		}
	}
}

// Of one root: its yes, its no and its ack are the first and the last ones.
func TestOneRoot(t *testing.T) {
	for root := 1; root <= 6; root++ {
		x := run(t, 3, begin(7, root))
		x.says(t, take(yes(root, 7)), "log 7")
		x.says(t, sure(7), named(commit(root, 7)))
		x.says(t, take(ack(root, 7)), "close 7")
		x.must(t, begin(7, root))
		x.says(t, take(no(root, 7)), "gone 7")
		x.must(t, recall(7, root))
		x.says(t, take(ack(root, 7)), "close 7")
		isCoord(t, x.c, deck{}, "the end")
	}
}

// What wire.Check refuses says nothing, and changes nothing, at any state; nor does what is to a root.
func TestTakeOfWrongMessages(t *testing.T) {
	var wrong []api.Msg
	for _, m := range slices.Concat(toEach(yes, 7, 1, 3, 6, 2), toEach(no, 7, 1, 3, 6, 2), toEach(ack, 7, 1, 3, 6, 2), toEach(ask, 7, 1, 3, 6, 2)) {
		packed, sure, turned := m, m, m
		packed.Packs = ones(1)
		turned.From, turned.To = m.To, m.From
		wrong = append(wrong, packed, turned)
		if sure.Yes = true; m.Kind != api.MsVote {
			wrong = append(wrong, sure)
		}
		for _, kind := range []int{0, 7, -1, 8, 256 + m.Kind, 1<<32 + m.Kind, -m.Kind, math.MaxInt, math.MinInt, api.MsPrepare, api.MsCommit, api.MsAbort} {
			other := m
			other.Kind = kind
			wrong = append(wrong, other)
		}
		for _, to := range []int{m.From, 1, 3, 7, -1, 256, 1 << 32, math.MinInt} {
			other := m
			other.To = to
			wrong = append(wrong, other)
		}
		for _, from := range wrongRoots() {
			other := m
			other.From = from
			wrong = append(wrong, other)
		}
		for _, txn := range append(wrongTxns(), 7+1<<40, 7-1<<40, 7+1<<62) {
			other := m
			other.Txn = txn
			wrong = append(wrong, other)
		}
	}
	right := 0
	for root := 1; root <= 6; root++ { // to roots: they may be, but are not for the coordinator
		for _, m := range []api.Msg{prepare(root, 7), prepare(root, 7, wants(root, 7)...), prepare(root, 7, ones(16)...), commit(root, 7), abort(root, 7), prepare(root, 8), commit(root, 8), abort(root, 8)} {
			if wire.Check(m) == api.OK {
				right++
			}
			wrong = append(wrong, m)
		}
	}
	if right != 48 {
		t.Errorf("%d messages to roots", right)
	}
	each(t, func(t *testing.T, w way, x *both) {
		for _, m := range wrong {
			if s := x.c.Take(m); len(s.Out) != 0 || s.Log != 0 || s.Close != 0 || s.Gone != 0 {
				t.Errorf("%s: %v", named(m), s)
			}
		}
		isCoord(t, x.c, x.d, "behind wrong messages")
		x.do(t, tick())
	})
}

// A list of packages without an element is none.
func TestTakeOfNoPackages(t *testing.T) {
	x := run(t, 5, begin(7, 1))
	m := yes(1, 7)
	m.Packs = []api.Pack{}
	x.says(t, take(m), "log 7")
	m = ask(1, 8)
	m.Packs = make([]api.Pack, 0, 5)
	x.says(t, take(m), "abort 8 (0 to 1)")
}

// Messages of transactions that are not known, with numbers beside the open ones and at the ends.
func TestTakeOfOtherTransactions(t *testing.T) {
	x := run(t, 5, others()...)
	for _, txn := range append(rightTxns(), 4, 6, 8, 10, 13) {
		if _, isOpen := x.d.card(txn); isOpen {
			continue
		}
		for root := 1; root <= 6; root++ {
			x.says(t, take(yes(root, txn)), named(abort(root, txn)))
			x.says(t, take(ask(root, txn)), named(abort(root, txn)))
			x.says(t, take(no(root, txn)), "")
			x.says(t, take(ack(root, txn)), "")
		}
	}
}

// P15.4: Sure, Quit

func TestSureAndQuitAtEachState(t *testing.T) {
	each(t, func(t *testing.T, w way, x *both) {
		if w.state == api.CoLogging {
			x.says(t, sure(7), "commit 7 (0 to 1), commit 7 (0 to 3), commit 7 (0 to 6)")
			if l := x.c.Lacks(7); !slices.Equal(l, []int{1, 3, 6}) {
				t.Error(l)
			}
		}
		x.answers(t, api.ErrState, sure(7), sure(7))
		x.do(t, tick())
	})
	each(t, func(t *testing.T, w way, x *both) {
		if w.state == api.CoVoting || w.state == api.CoLogging {
			x.says(t, quit(7), "abort 7 (0 to 1), abort 7 (0 to 3), abort 7 (0 to 6)")
		}
		x.answers(t, api.ErrState, quit(7), quit(7), sure(7))
		x.do(t, tick())
		x.do(t, take(ask(3, 7)))
	})
}

func TestSureAndQuitOfOthers(t *testing.T) {
	x := run(t, 5, others()...)
	for _, txn := range append(wrongTxns(), 1, 2, 4, 6, 7, 8, 10, 1<<40-1) {
		x.answers(t, api.ErrState, sure(txn), quit(txn))
	}
	x.answers(t, api.ErrState, sure(3), sure(5), quit(5), sure(11), quit(11), sure(12), sure(1<<40))
	x.must(t, sure(9), quit(3), quit(1<<40), quit(12))
	x.answers(t, api.ErrState, sure(9), quit(9), quit(3), sure(3), quit(1<<40), quit(12))
}

// P15.5: Tick

func TestTickOfNone(t *testing.T) {
	for _, limit := range []int{1, 2, 1000} {
		x := fresh(limit)
		for range 5 {
			x.says(t, tick(), "")
		}
		x.must(t, recall(7, 1), take(ack(1, 7)))
		x.says(t, tick(), "")
	}
}

func TestTickAtEachState(t *testing.T) {
	each(t, func(t *testing.T, w way, x *both) {
		for range 2*limit + 1 {
			x.do(t, tick())
		}
		isLeft := w.state == api.CoLogging || w.state == api.CoCommitted
		if (x.c.State(7) != 0) != isLeft {
			t.Errorf("its state is %d", x.c.State(7))
		}
	})
}

// Just ahead of the limit, and at it: whatever votes came, and in whichever tick.
func TestTheLimit(t *testing.T) {
	for _, limit := range []int{1, 2, 3, 10, 999, 1000} {
		x := run(t, limit, begin(7, 2, 4))
		x.must(t, take(yes(2, 7)))
		for range limit - 1 {
			if a := x.quick(t, tick()); !areMsgs(a.out, prepares(7, 4)) || len(a.all) != 0 {
				t.Fatalf("limit %d: %v", limit, a)
			}
		}
		isCoord(t, x.c, x.d, "just ahead of the limit")
		x.says(t, tick(), "abort 7 (0 to 2), abort 7 (0 to 4), gone 7")
		x.says(t, tick(), "")
	}
}

func TestVotesJustAheadOfTheLimit(t *testing.T) {
	for _, limit := range []int{1, 2, 3, 10} {
		ticks := slices.Repeat([]deed{tick()}, limit-1)
		x := run(t, limit, deeds([]deed{begin(7, 2, 4)}, ticks, takes(yes, 7, 4, 2))...)
		for range 2 * limit {
			x.says(t, tick(), "")
		}
		x.says(t, sure(7), "commit 7 (0 to 2), commit 7 (0 to 4)")
		for range 2 * limit {
			x.says(t, tick(), "commit 7 (0 to 2), commit 7 (0 to 4)")
		}
		x.must(t, take(ack(2, 7)))
		x.says(t, tick(), "commit 7 (0 to 4)")
	}
}

// One that was begun again is as old as it is since then.
func TestBegunAgain(t *testing.T) {
	x := run(t, 3, begin(7, 1, 2), tick(), tick(), quit(7), begin(7, 1, 2))
	x.says(t, tick(), named(prepares(7, 1, 2)...))
	x.says(t, tick(), named(prepares(7, 1, 2)...))
	x.says(t, tick(), "abort 7 (0 to 1), abort 7 (0 to 2), gone 7")
	x.must(t, begin(7, 4))
	x.says(t, tick(), named(prepares(7, 4)...))
}

// What is wanted for a root is that of its last beginning.
func TestBegunAgainWithOthers(t *testing.T) {
	x := run(t, 5, beginOf(7, api.Plan{Root: 1, Packs: ones(1)}), quit(7), beginOf(7, api.Plan{Root: 1, Packs: ones(3)}, api.Plan{Root: 2}))
	x.says(t, tick(), named(prepare(1, 7, ones(3)...), prepare(2, 7)))
}

// Several at once, of all states, begun in any order: told by their numbers; gone are those alone that are old enough.
func TestTickOfSeveral(t *testing.T) {
	for _, order := range orders(0, 1, 2, 3, 4) {
		firsts := []deed{begin(3, 2, 5), begin(10, 1), recall(20, 4, 6), begin(1<<40, 1, 2, 3), begin(200, 6)}
		x := fresh(3)
		for _, i := range order {
			x.must(t, firsts[i])
		}
		x.must(t, take(yes(1, 10)), take(yes(3, 1<<40)), take(ack(6, 20)))
		x.says(t, tick(), named(slices.Concat(prepares(3, 2, 5), toEach(commit, 20, 4), prepares(200, 6), prepares(1<<40, 1, 2))...))
		x.must(t, begin(4, 5), recall(1, 3), begin(1<<40-1, 5))
		x.says(t, tick(), named(slices.Concat(toEach(commit, 1, 3), prepares(3, 2, 5), prepares(4, 5), toEach(commit, 20, 4), prepares(200, 6), prepares(1<<40-1, 5), prepares(1<<40, 1, 2))...))
		gone := slices.Concat(toEach(commit, 1, 3), toEach(abort, 3, 2, 5), prepares(4, 5), toEach(commit, 20, 4), toEach(abort, 200, 6), prepares(1<<40-1, 5), toEach(abort, 1<<40, 1, 2, 3))
		x.says(t, tick(), named(gone...)+", gone 3, gone 200, gone 1099511627776")
		x.says(t, tick(), named(slices.Concat(toEach(commit, 1, 3), toEach(abort, 4, 5), toEach(commit, 20, 4), toEach(abort, 1<<40-1, 5))...)+", gone 4, gone 1099511627775")
		x.must(t, sure(10))
		x.says(t, tick(), named(slices.Concat(toEach(commit, 1, 3), toEach(commit, 10, 1), toEach(commit, 20, 4))...))
	}
}

func TestTickOfMany(t *testing.T) {
	x := fresh(4)
	for i := range 300 {
		txn := 1 + i*7919%1009
		if i%3 == 0 {
			x.quick(t, recall(txn, 1+i%3, 4+i%3))
		} else {
			x.quick(t, begin(txn, 1+i%3, 4+i%3))
		}
		if i%3 == 1 {
			x.quick(t, take(yes(1+i%3, txn)))
			x.quick(t, take(yes(4+i%3, txn)))
		}
	}
	isCoord(t, x.c, x.d, "many")
	for range 6 {
		x.do(t, tick())
	}
	if l := x.c.Open(); len(l) != 200 || !slices.IsSorted(l) {
		t.Errorf("%d are open: %v", len(l), l)
	}
}

// P15.6: Open, State, Lacks

func TestOpenStateAndLacks(t *testing.T) {
	each(t, func(t *testing.T, w way, x *both) {
		if s, l := x.c.State(7), x.c.Lacks(7); s != w.state || !slices.Equal(l, w.lacks) {
			t.Errorf("State is %d, %v lack, want %d and %v", s, l, w.state, w.lacks)
		}
		if isOpen := slices.Contains(x.c.Open(), 7); isOpen != (w.state != 0) {
			t.Errorf("it is among the open ones: %v", isOpen)
		}
	})
}

func TestOpenInOrder(t *testing.T) {
	for _, order := range orders(1, 9, 10, 1<<32, 1<<40) {
		x := fresh(5)
		for i, txn := range order {
			if i%2 == 0 {
				x.must(t, begin(txn, 1))
			} else {
				x.must(t, recall(txn, 1))
			}
		}
		if l := x.c.Open(); !slices.Equal(l, []int{1, 9, 10, 1 << 32, 1 << 40}) {
			t.Errorf("begun as %v: %v", order, l)
		}
		for i, txn := range order {
			y := quit(txn)
			if i%2 == 1 {
				y = take(ack(1, txn))
			}
			x.must(t, y)
		}
		if l := x.c.Open(); len(l) != 0 {
			t.Error(l)
		}
	}
}

// Who lacks stands rising, in whichever order the others answer.
func TestLacksInOrder(t *testing.T) {
	for _, order := range orders(1, 2, 3, 4, 5, 6) {
		if order[0]%2 == 0 && order[1]%2 == 0 { // some are enough
			continue
		}
		x := fresh(5)
		x.quick(t, begin(7, 1, 2, 3, 4, 5, 6))
		x.quick(t, recall(8, 1, 2, 3, 4, 5, 6))
		left := []int{1, 2, 3, 4, 5, 6}
		for _, root := range order {
			x.quick(t, take(yes(root, 7)))
			x.quick(t, take(ack(root, 8)))
			left = slices.DeleteFunc(left, func(r int) bool { return r == root })
			if a, b := x.c.Lacks(7), x.c.Lacks(8); !slices.Equal(a, left) || !slices.Equal(b, left) {
				t.Fatalf("%v and %v lack, want %v", a, b, left)
			}
		}
	}
}

// Rule 1: objects that no call made

func TestNoCoordinator(t *testing.T) {
	var null *Coord
	for name, c := range map[string]*Coord{"nil": null, "a plain one": {}, "a new one": new(Coord), "one of a refused limit": New(0)} {
		for range 2 {
			for _, y := range deeds([]deed{begin(7, 1), begin(0), begin(7), recall(7, 1), recall(0), recall(7), sure(7), sure(0), quit(7), quit(0)}) {
				if a := y.on(c); !a.is(answer{e: api.ErrNil}) {
					t.Errorf("%s: %v = %v", name, y, a)
				}
			}
			for _, y := range []deed{beginOf(7, api.Plan{Root: 1, Packs: ones(17)}), begin(7, 2, 1), recall(7, 0)} {
				if a := y.on(c); !a.is(answer{e: api.ErrNil}) {
					t.Errorf("%s: %v = %v", name, y, a)
				}
			}
			for _, y := range []deed{take(yes(1, 7)), take(no(1, 7)), take(ack(1, 7)), take(ask(1, 7)), take(api.Msg{}), take(prepare(1, 7)), tick()} {
				if a := y.on(c); !a.is(answer{}) {
					t.Errorf("%s: %v = %v", name, y, a)
				}
			}
			if c.State(7) != 0 || len(c.Open()) != 0 || len(c.Lacks(7)) != 0 {
				t.Errorf("%s: %d, %v, %v", name, c.State(7), c.Open(), c.Lacks(7))
			}
		}
	}
}

// P15.7, and rows of calls

// smallDeeds are the calls of two transactions on two roots each, one of which both have, and of a root that neither has.
func smallDeeds() []deed {
	l := []deed{begin(7, 1, 2), recall(7, 1, 2), sure(7), quit(7), begin(9, 2, 3), recall(9, 2, 3), sure(9), quit(9), tick()}
	for _, m := range []func(root, txn int) api.Msg{yes, no, ack, ask} {
		l = append(l, takes(m, 7, 1, 2, 3)...)
		l = append(l, takes(m, 9, 2, 3, 4)...)
	}
	return l
}

// Each call at each state that two transactions can be in together: a coordinator is led there, and tells what it must; and so it does behind the call.
func TestAllStates(t *testing.T) {
	for limit := 1; limit <= 3; limit++ {
		ways := map[string][]deed{fmt.Sprint(deck{limit: limit}): nil}
		left := [][]deed{nil}
		for len(left) > 0 {
			way := left[0]
			left = left[1:]
			for _, y := range smallDeeds() {
				x := fresh(limit)
				for _, z := range way {
					x.quick(t, z)
				}
				x.do(t, y)
				if state := x.d.String(); ways[state] == nil && len(x.d.cards) > 0 {
					ways[state] = append(slices.Clip(slices.Clone(way)), y)
					left = append(left, ways[state])
				}
				x.quick(t, tick())
				x.do(t, tick())
			}
		}
		// Of each: not known, three voting ones of each age below the limit, logging, three committed ones.
		if one := 1 + 3*limit + 1 + 3; len(ways) != one*one {
			t.Errorf("limit %d: %d states, want %d", limit, len(ways), one*one)
		}
	}
}

// All rows of up to 5 calls of one transaction, and of some of another one.
func TestAllRows(t *testing.T) {
	all := []deed{begin(7, 1, 2), recall(7, 1, 2), sure(7), quit(7), tick(), begin(9, 2), take(yes(1, 7)), take(yes(2, 7)), take(no(2, 7)), take(ack(1, 7)), take(ack(2, 7)), take(ask(2, 7))}
	rows := 0
	var from func(row []deed)
	from = func(row []deed) {
		rows++
		if len(row) > 0 {
			x := fresh(2)
			for _, y := range row {
				x.quick(t, y)
			}
			isSmall(t, x, row)
		}
		if len(row) == 5 {
			return
		}
		for _, y := range all {
			from(append(slices.Clip(row), y))
		}
	}
	from(nil)
	if want := 1 + 12 + 12*12 + 12*12*12 + 12*12*12*12 + 12*12*12*12*12; rows != want {
		t.Errorf("%d rows, want %d", rows, want)
	}
}

// isSmall fails where a coordinator of the rows tells anything else than it must: of the transactions 7 and 9.
func isSmall(t *testing.T, x *both, row []deed) {
	t.Helper()
	if l := x.c.Open(); !slices.Equal(l, x.d.open()) {
		t.Fatalf("behind %v: Open is %v, of %v", row, l, x.d)
	}
	for _, txn := range []int{7, 9} {
		state, lacks := 0, []int(nil)
		if y, ok := x.d.card(txn); ok {
			state, lacks = y.state(), y.lacks()
		}
		if s, l := x.c.State(txn), x.c.Lacks(txn); s != state || !slices.Equal(l, lacks) {
			t.Fatalf("behind %v: State(%d) is %d, %v lack, of %v", row, txn, s, l, x.d)
		}
	}
}

// someRoots are roots by chance, rising, at least one.
func someRoots(chance *rand.Rand) []int {
	l := chance.Perm(6)[:1+chance.Intn(4)]
	for i := range l {
		l[i]++
	}
	slices.Sort(l)
	return l
}

// anyDeed is a call by chance, of transactions from 1 on, of which so many may be open; now and then one that is refused.
func anyDeed(chance *rand.Rand, d deck, most int) deed {
	txn := 1 + chance.Intn(most)
	root := 1 + chance.Intn(6)
	if x, ok := d.card(txn); ok && chance.Intn(5) > 0 { // so that there are ends
		if l := append(x.roots(), x.lacks()...); len(l) > 0 {
			root = l[chance.Intn(len(l))]
		}
	}
	switch chance.Intn(24) {
	case 0, 1, 2:
		return begin(txn, someRoots(chance)...)
	case 3:
		return recall(txn, someRoots(chance)...)
	case 4, 5, 6, 7, 8, 9:
		return take(yes(root, txn))
	case 10:
		return take(no(root, txn))
	case 11, 12, 13, 14, 15:
		return take(ack(root, txn))
	case 16, 17:
		return take(ask(root, txn))
	case 18, 19, 20:
		return sure(txn)
	case 21:
		return quit(txn)
	case 22:
		l := []deed{begin(0, 1), recall(1<<40+1, 2), begin(txn, 2, 1), recall(txn, 7), begin(txn), beginOf(txn, api.Plan{Root: 1, Packs: ones(17)}), take(commit(root, txn)), take(prepare(root, txn)), take(yes(0, txn)), take(ack(root, -txn))}
		return l[chance.Intn(len(l))]
	}
	return tick()
}

func TestRowsByChance(t *testing.T) {
	told := map[string]int{}
	for seed := range int64(12) {
		chance := rand.New(rand.NewSource(seed))
		x := fresh([]int{1, 2, 5, 20}[seed%4])
		for i := range 6000 {
			y := anyDeed(chance, x.d, 3+int(seed))
			a := x.quick(t, y)
			told[fmt.Sprint(y.name, " ", int(a.e), " ", a.log != 0, a.close != 0, a.gone != 0, len(a.all) > 1, len(a.out) > 1)]++
			if i%5 == 0 {
				isCoord(t, x.c, x.d, fmt.Sprint("behind ", y))
			}
		}
	}
	for _, name := range []string{
		"Begin 0 false false false false true", "Begin 2 false false false false false", "Begin 3 false false false false false", "Begin 8 false false false false false", "Begin 9 false false false false false",
		"Recall 0 false false false false true", "Recall 2 false false false false false", "Recall 8 false false false false false",
		"Sure 0 false false false false true", "Sure 11 false false false false false", "Quit 0 false false false false true", "Quit 11 false false false false false",
		"Take 0 false false false false false", "Take 0 true false false false false", "Take 0 false true false false false", "Take 0 false false true false true",
		"Tick 0 false false false false true", "Tick 0 false false false true true",
	} {
		if told[name] < 10 {
			t.Errorf("%s: %d times, of %v", name, told[name], told)
		}
	}
}

// watcher knows of one transaction what calls told, and nothing of what a coordinator keeps.
type watcher struct {
	isOpen, isSure bool
	roots, yes     []int
}

// sees takes note of a call and its answer.
func sees(all map[int]watcher, y deed, a answer) {
	switch {
	case a.e != api.OK:
	case y.name == "Begin", y.name == "Recall":
		all[y.txn] = watcher{isOpen: true, isSure: y.name == "Recall", roots: y.roots()}
	case y.name == "Sure":
		w := all[y.txn]
		w.isSure = true
		all[y.txn] = w
	case y.name == "Quit":
		delete(all, y.txn)
	case y.name == "Take" && y.m.Kind == api.MsVote && y.m.Yes && wire.Check(y.m) == api.OK:
		w := all[y.m.Txn]
		w.yes = added(w.yes, y.m.From)
		all[y.m.Txn] = w
	}
	for _, txn := range append([]int{a.close, a.gone}, a.all...) {
		delete(all, txn)
	}
}

// A commit is sent of nothing but what was Sure or recalled, an abort of no such one to a root of it as long as it is open; logging is nothing unless all its roots voted yes, and none is open that was not begun or recalled.
func TestCommitsAndAborts(t *testing.T) {
	commits, aborts, logging := 0, 0, 0
	for seed := range int64(12) {
		chance := rand.New(rand.NewSource(100 + seed))
		c, all := New([]int{1, 2, 5, 20}[seed%4]), map[int]watcher{}
		d := deck{limit: 1} // it picks roots, no more
		for range 5000 {
			y := anyDeed(chance, d, 6)
			a := y.on(c)
			sees(all, y, a)
			d.cards = nil
			for _, txn := range c.Open() {
				w := all[txn]
				if !w.isOpen {
					t.Fatalf("behind %v: %d is open", y, txn)
				}
				d.cards = append(d.cards, card{txn: txn, plans: plans(txn, w.roots...)})
				hasAll := !slices.ContainsFunc(w.roots, func(root int) bool { return !slices.Contains(w.yes, root) })
				if s := c.State(txn); s == api.CoLogging && (!hasAll || w.isSure) || (s == api.CoCommitted) != w.isSure {
					t.Fatalf("behind %v: State(%d) is %d, of %v", y, txn, s, w)
				} else if s == api.CoLogging {
					logging++
				}
			}
			for _, m := range a.out {
				w := all[m.Txn]
				switch isOf := slices.Contains(w.roots, m.To); {
				case m.Kind == api.MsCommit && !(w.isSure && isOf), m.Kind == api.MsAbort && w.isSure && isOf:
					t.Fatalf("%v = %v, of %v", y, a, w)
				case m.Kind == api.MsCommit:
					commits++
				case m.Kind == api.MsAbort:
					aborts++
				}
			}
		}
	}
	if commits < 1000 || aborts < 1000 || logging < 1000 {
		t.Errorf("%d commits, %d aborts, %d times logging", commits, aborts, logging)
	}
}

// A message that comes again right behind itself changes nothing: another coordinator that is handed each one once answers all calls the same; and the second time nothing is told as to be logged, closed or gone.
func TestTwice(t *testing.T) {
	messages := 0
	for seed := range int64(12) {
		chance := rand.New(rand.NewSource(200 + seed))
		x, other := fresh([]int{1, 2, 5, 20}[seed%4]), New([]int{1, 2, 5, 20}[seed%4])
		for range 4000 {
			y := anyDeed(chance, x.d, 6)
			a := x.quick(t, y)
			if b := y.on(other); !a.is(b) {
				t.Fatalf("%v = %v, once %v", y, a, b)
			}
			if y.name != "Take" {
				continue
			}
			messages++
			for range 1 + chance.Intn(2) {
				again := y.on(x.c)
				if again.log != 0 || again.close != 0 || again.gone != 0 || len(again.out) > 1 {
					t.Fatalf("%v again = %v", y, again)
				}
			}
			isCoord(t, x.c, x.d, fmt.Sprint("twice ", y))
		}
	}
	if messages < 10000 {
		t.Errorf("only %d messages", messages)
	}
}

// The same at each state: of each message.
func TestTwiceAtEachState(t *testing.T) {
	for _, w := range ways() {
		for _, m := range slices.Concat(toEach(yes, 7, 1, 2, 3, 6), toEach(no, 7, 1, 2, 3, 6), toEach(ack, 7, 1, 2, 3, 6), toEach(ask, 7, 1, 2, 3, 6)) {
			x := run(t, limit, w.deeds...)
			x.do(t, take(m))
			behind := x.d.String()
			x.do(t, take(m))
			if s := x.d.String(); s != behind {
				t.Errorf("%s: %s again: %s, want %s", w.name, named(m), s, behind)
			}
			for range limit {
				x.do(t, tick())
			}
		}
	}
}

// The same calls tell the same.
func TestTheSameAgain(t *testing.T) {
	x, y := run(t, 5, others()...), run(t, 5, others()...)
	chance := rand.New(rand.NewSource(1))
	for range 3000 {
		z := anyDeed(chance, x.d, 12)
		if a, b := x.quick(t, z), y.quick(t, z); !a.is(b) {
			t.Fatalf("%v: %v and %v", z, a, b)
		}
	}
	isCoord(t, y.c, x.d, "the same calls")
}

// What is done to one transaction changes nothing of others: each goes as it does in a coordinator where it is alone.
func TestTransactionsAreApart(t *testing.T) {
	for seed := range int64(6) {
		chance := rand.New(rand.NewSource(300 + seed))
		x, alone := fresh(5), map[int]*both{}
		for txn := 1; txn <= 6; txn++ {
			alone[txn] = fresh(5)
		}
		for range 4000 {
			y := anyDeed(chance, x.d, 6)
			a := x.quick(t, y)
			var want answer
			switch {
			case y.name == "Tick":
				for txn := 1; txn <= 6; txn++ {
					b := alone[txn].quick(t, y)
					want.out, want.all = append(want.out, b.out...), append(want.all, b.all...)
				}
			case alone[y.txn+y.m.Txn] != nil:
				want = alone[y.txn+y.m.Txn].quick(t, y)
			default: // no transaction's number
				want = y.on(alone[1].c)
			}
			if !a.is(want) {
				t.Fatalf("%v = %v, alone %v", y, a, want)
			}
		}
	}
}

// Rule 5: memory

// roomy is the same plans in lists that have memory behind their lengths; memory all that they stand in, with what is behind the lengths.

func roomy(l []api.Plan) []api.Plan {
	out := make([]api.Plan, 0, len(l)+2)
	for _, p := range l {
		packs := make([]api.Pack, 0, len(p.Packs)+3)
		for _, q := range p.Packs {
			refs := append(make([]api.Ref, 0, len(q.Man.Layers)+3), q.Man.Layers...)
			for k := len(refs); k < cap(refs); k++ {
				refs[:cap(refs)][k].Size = 1000 + k
			}
			q.Man.Layers = refs
			packs = append(packs, q)
		}
		for i := len(packs); i < cap(packs); i++ {
			packs[:cap(packs)][i].Owner = 1000 + i
		}
		out = append(out, api.Plan{Root: p.Root, Packs: packs})
	}
	for i := len(out); i < cap(out); i++ {
		out[:cap(out)][i].Root = 1000 + i
	}
	return out
}

func memory(l []api.Plan) string {
	out := ""
	for _, p := range l[:cap(l)] {
		out += fmt.Sprint(" root ", p.Root)
		for _, q := range p.Packs[:cap(p.Packs)] {
			out += fmt.Sprint(q.Owner, q.Man.Name, q.Man.Version, q.Man.Layers[:cap(q.Man.Layers)])
		}
	}
	return out
}

// spoilPacks, spoilPlans, spoilMsgs and spoilInts write over all memory of a list.

func spoilPacks(l []api.Pack) {
	l = l[:cap(l)]
	for i, p := range l {
		refs := p.Man.Layers[:cap(p.Man.Layers)]
		for k := range refs {
			refs[k] = api.Ref{Sum: api.Digest{99, byte(k)}, Size: 99}
		}
		l[i] = api.Pack{Owner: 99, Man: api.Manifest{Name: "spoilt"}}
	}
}

func spoilPlans(l []api.Plan) {
	l = l[:cap(l)]
	for i, p := range l {
		spoilPacks(p.Packs)
		l[i] = api.Plan{Root: 99}
	}
}

func spoilMsgs(l []api.Msg) {
	l = l[:cap(l)]
	for i, m := range l {
		spoilPacks(m.Packs)
		l[i] = api.Msg{Kind: 99, From: 99, To: 99, Txn: 99, Yes: true}
	}
}

func spoilInts(l []int) {
	l = l[:cap(l)]
	for i := range l {
		l[i] = 99
	}
}

// two are plans of two roots, with packages of one and of two layers.
func two() []api.Plan {
	return []api.Plan{{Root: 1, Packs: []api.Pack{pack(2, "a", 5, 6), pack(1, "b", 7)}}, {Root: 4, Packs: []api.Pack{pack(3, "c", 8)}}}
}

func TestPlansAreNotKept(t *testing.T) {
	c := New(9)
	l := roomy(two())
	given := memory(l)
	told, e := c.Begin(7, l)
	if e != api.OK || memory(l) != given {
		t.Fatalf("%d, %s, want %s", int(e), memory(l), given)
	}
	want := []api.Msg{prepare(1, 7, two()[0].Packs...), prepare(4, 7, two()[1].Packs...)}
	spoilPlans(l)
	if !areMsgs(told, want) {
		t.Errorf("what was told is %s", named(told...))
	}
	isCoord(t, c, deck{limit: 9, cards: []card{{txn: 7, plans: two()}}}, "what was handed in was changed")
	for range 2 {
		if l, _ := c.Tick(); !areMsgs(l, want) {
			t.Errorf("%s", named(l...))
		}
	}
	if l, e := c.Quit(7); e != api.OK || !areMsgs(l, []api.Msg{abort(1, 7), abort(4, 7)}) {
		t.Errorf("%s, %d", named(l...), int(e))
	}
}

func TestRootsAreNotKept(t *testing.T) {
	c := New(9)
	roots := append(make([]int, 0, 5), 2, 5)
	roots[:5][3] = 1000
	told, e := c.Recall(7, roots)
	if e != api.OK || !slices.Equal(roots[:5], []int{2, 5, 0, 1000, 0}) {
		t.Fatalf("%d, %v", int(e), roots[:5])
	}
	spoilInts(roots)
	want := []api.Msg{commit(2, 7), commit(5, 7)}
	if l, _ := c.Tick(); !areMsgs(told, want) || !areMsgs(l, want) || !slices.Equal(c.Lacks(7), []int{2, 5}) {
		t.Errorf("%s, %s, %v lack", named(told...), named(l...), c.Lacks(7))
	}
	if s := c.Take(ask(5, 7)); !areMsgs(s.Out, want[1:]) {
		t.Errorf("%v", s)
	}
}

// What is refused is not changed either, nor kept.
func TestWhatIsRefusedIsNotChanged(t *testing.T) {
	c := New(9)
	c.Begin(7, two())
	for i, l := range [][]api.Plan{two(), {{Root: 1, Packs: ones(17)}}, {{Root: 2}, {Root: 1, Packs: ones(2)}}, {{Root: 0, Packs: ones(1)}}} {
		l = roomy(l)
		given := memory(l)
		if told, e := c.Begin(7, l); e == api.OK || len(told) != 0 || memory(l) != given {
			t.Errorf("Begin %d: %s, %d, %s, want %s", i, named(told...), int(e), memory(l), given)
		}
		spoilPlans(l)
	}
	m := prepare(1, 7, roomy(two())[0].Packs...)
	given := memory([]api.Plan{{Packs: m.Packs}})
	if s := c.Take(m); len(s.Out) != 0 || memory([]api.Plan{{Packs: m.Packs}}) != given {
		t.Errorf("%v", s)
	}
	spoilPacks(m.Packs)
	isCoord(t, c, deck{limit: 9, cards: []card{{txn: 7, plans: two()}}}, "refused")
	if l, _ := c.Tick(); !areMsgs(l, []api.Msg{prepare(1, 7, two()[0].Packs...), prepare(4, 7, two()[1].Packs...)}) {
		t.Errorf("%s", named(l...))
	}
}

// What lies behind a list's length is not looked at, nor handed out, whatever it is.
func TestBehindTheLength(t *testing.T) {
	l := append(plans(7, 1, 2), api.Plan{Root: 1}, api.Plan{Root: 99, Packs: ones(17)})
	l[0].Packs = append(ones(2), pack(0, "wrong", 5))[:2]
	l[0].Packs[0].Man.Layers = append(l[0].Packs[0].Man.Layers, l[0].Packs[0].Man.Layers[0])[:1] // a digest twice, but for the length
	x := fresh(5)
	x.must(t, beginOf(7, l[:2]...))
	x.answers(t, api.ErrNone, beginOf(8, l[:0]...))
	for _, roots := range [][]int{{1, 2, 0, 99}, {1, 2, 2}} {
		if told, e := New(5).Recall(7, roots[:2]); e != api.OK || len(told) != 2 {
			t.Errorf("%s, %d", named(told...), int(e))
		}
		if _, e := New(5).Recall(7, roots[:0]); e != api.ErrNone {
			t.Error(int(e))
		}
	}
	m := yes(1, 7)
	m.Packs = l[0].Packs[:0]
	x.must(t, take(m))
	told, _ := x.c.Tick()
	for _, m := range told[:cap(told)][len(told):] {
		if !isMsg(m, api.Msg{}) {
			t.Errorf("%s was handed out", named(m))
		}
	}
	y := run(t, 5, beginOf(7, l[:2]...))
	told, _ = y.c.Tick()
	for _, m := range told {
		for _, p := range m.Packs[:cap(m.Packs)][len(m.Packs):] {
			if !isPack(p, api.Pack{}) {
				t.Errorf("%v was handed out", p)
			}
		}
		for _, p := range m.Packs {
			for _, r := range p.Man.Layers[:cap(p.Man.Layers)][len(p.Man.Layers):] {
				if r != (api.Ref{}) {
					t.Errorf("%v was handed out", r)
				}
			}
		}
	}
}

// What is told is new memory each time: changed, it changes no coordinator.
func TestWhatIsToldIsNew(t *testing.T) {
	spoil := func(a answer) {
		spoilMsgs(a.out)
		spoilInts(a.all)
	}
	for seed := range int64(4) {
		chance := rand.New(rand.NewSource(400 + seed))
		x := fresh(5)
		x.must(t, beginOf(7, two()...))
		for range 3000 {
			y := anyDeed(chance, x.d, 8)
			next, want := y.plan(x.d)
			a := y.on(x.c)
			if !a.is(want) {
				t.Fatalf("%v = %v, want %v, of %v", y, a, want, x.d)
			}
			x.d = next
			spoil(a)
			spoilInts(x.c.Open())
			for txn := 1; txn <= 8; txn++ {
				spoilInts(x.c.Lacks(txn))
			}
		}
		isCoord(t, x.c, x.d, "what was told was changed")
	}
}

// The first messages of a transaction, and all later ones, with their packages and layers.
func TestPreparesAreNew(t *testing.T) {
	c := New(9)
	want := []api.Msg{prepare(1, 7, two()[0].Packs...), prepare(4, 7, two()[1].Packs...)}
	first, e := c.Begin(7, two())
	if e != api.OK || !areMsgs(first, want) {
		t.Fatalf("%s, %d", named(first...), int(e))
	}
	second, _ := c.Tick()
	spoilMsgs(first)
	if !areMsgs(second, want) {
		t.Errorf("%s", named(second...))
	}
	third, _ := c.Tick()
	spoilMsgs(second)
	if !areMsgs(third, want) {
		t.Errorf("%s", named(third...))
	}
	c.Take(yes(1, 7))
	fourth, _ := c.Tick()
	if spoilMsgs(third); !areMsgs(fourth, want[1:]) {
		t.Errorf("%s", named(fourth...))
	}
}

// The lists of one answer share no memory with one another, whatever the plans shared.
func TestListsOfOneAnswer(t *testing.T) {
	p := pack(1, "a", 5, 6)
	q := api.Pack{Owner: 2, Man: api.Manifest{Name: "b", Version: "1", Layers: p.Man.Layers}}
	shared := []api.Pack{p, q}
	c := New(9)
	l, e := c.Begin(7, []api.Plan{{Root: 1, Packs: shared}, {Root: 2, Packs: shared}, {Root: 3, Packs: shared[:1]}})
	want := []api.Msg{prepare(1, 7, p, q), prepare(2, 7, p, q), prepare(3, 7, p)}
	if e != api.OK {
		t.Fatal(int(e))
	}
	c.Begin(8, []api.Plan{{Root: 1, Packs: shared}})
	want = append(want, prepare(1, 8, p, q))
	later, _ := c.Tick()
	for _, told := range [][]api.Msg{l, later} {
		for i := range told {
			if !areMsgs(told[i:], want[i:len(told)]) {
				t.Errorf("message %d: %s", i, named(told[i:]...))
			}
			refs := told[i].Packs[0].Man.Layers
			for k := range refs[:cap(refs)] {
				refs[:cap(refs)][k] = api.Ref{Size: 99}
			}
			if len(told[i].Packs) > 1 && !isPack(told[i].Packs[1], q) {
				t.Errorf("message %d: %v", i, told[i].Packs[1])
			}
			spoilPacks(told[i].Packs)
		}
	}
	if again, _ := c.Tick(); !areMsgs(again, want) || !isPack(p, pack(1, "a", 5, 6)) {
		t.Errorf("%s", named(again...))
	}
}

// Appending to what was told changes nobody else's list.
func TestAppendingToWhatIsTold(t *testing.T) {
	x := run(t, 9, begin(3, 1, 2, 4), begin(5, 1, 2, 3, 4, 5), recall(9, 3, 4))
	x.must(t, take(yes(1, 5)), take(yes(4, 5)))
	lacks, open := x.c.Lacks(5), x.c.Open()
	_, _ = append(lacks, 99), append(open, 99)
	isCoord(t, x.c, x.d, "appended to")
	x.must(t, take(yes(2, 5)), tick())
	if !slices.Equal(lacks, []int{2, 3, 5}) || !slices.Equal(open, []int{3, 5, 9}) {
		t.Errorf("%v, %v", lacks, open)
	}
}

// What was told is not changed by what is done later.
func TestWhatWasToldStays(t *testing.T) {
	x := run(t, 5, others()...)
	chance := rand.New(rand.NewSource(2))
	for range 400 {
		ahead, open := x.d, x.c.Open()
		lacks := map[int][]int{}
		for txn := 1; txn <= 12; txn++ {
			lacks[txn] = x.c.Lacks(txn)
		}
		y := anyDeed(chance, x.d, 12)
		next, want := y.plan(x.d)
		told := y.on(x.c)
		x.d = next
		for range 4 {
			x.quick(t, anyDeed(chance, x.d, 12))
		}
		if !told.is(want) || !slices.Equal(open, ahead.open()) {
			t.Fatalf("%v told %v, now %v; %v were open", y, want, told, open)
		}
		for txn, l := range lacks {
			var want []int
			if z, ok := ahead.card(txn); ok {
				want = z.lacks()
			}
			if !slices.Equal(l, want) {
				t.Fatalf("of %d %v lacked, now %v", txn, want, l)
			}
		}
	}
}
