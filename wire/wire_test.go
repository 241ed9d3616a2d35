package wire

import (
	"crypto/sha256"
	"fmt"
	"maps"
	"math"
	"math/rand"
	"slices"
	"strings"
	"testing"

	"veneer/api"
	"veneer/rootdb"
)

// The messages of each kind, of one root.

func prepare(root, txn int, l ...api.Pack) api.Msg {
	return api.Msg{Kind: api.MsPrepare, To: root, Txn: txn, Packs: l}
}

func vote(root, txn int, yes bool) api.Msg {
	return api.Msg{Kind: api.MsVote, From: root, Txn: txn, Yes: yes}
}

func commit(root, txn int) api.Msg { return api.Msg{Kind: api.MsCommit, To: root, Txn: txn} }

func abort(root, txn int) api.Msg { return api.Msg{Kind: api.MsAbort, To: root, Txn: txn} }

func ack(root, txn int) api.Msg { return api.Msg{Kind: api.MsAck, From: root, Txn: txn} }

func ask(root, txn int) api.Msg { return api.Msg{Kind: api.MsAsk, From: root, Txn: txn} }

// pack is a package whose layers have these sizes; ones are n packages of one layer each.

func pack(owner int, name string, sizes ...int) api.Pack {
	p := api.Pack{Owner: owner, Man: api.Manifest{Name: name, Version: "1"}}
	for i, size := range sizes {
		p.Man.Layers = append(p.Man.Layers, api.Ref{Sum: sha256.Sum256([]byte(fmt.Sprint(name, " ", i))), Size: size})
	}
	return p
}

func ones(n int) []api.Pack {
	var l []api.Pack
	for i := range n {
		l = append(l, pack(1+i%8, fmt.Sprint("p", i), 5))
	}
	return l
}

// messages are one of each kind, a vote of each way, and prepares with and without packages, of one root and one transaction.
func messages(root, txn int) []api.Msg {
	return []api.Msg{
		prepare(root, txn), prepare(root, txn, ones(1)...), prepare(root, txn, pack(2, "a", 5, 6), pack(1, "b", 7)), prepare(root, txn, ones(16)...),
		vote(root, txn, true), vote(root, txn, false), commit(root, txn), abort(root, txn), ack(root, txn), ask(root, txn),
	}
}

func isPack(a, b api.Pack) bool {
	return a.Owner == b.Owner && a.Man.Name == b.Man.Name && a.Man.Version == b.Man.Version && slices.Equal(a.Man.Layers, b.Man.Layers)
}

func isMsg(a, b api.Msg) bool {
	isHead := a.Kind == b.Kind && a.From == b.From && a.To == b.To && a.Txn == b.Txn && a.Yes == b.Yes
	return isHead && slices.EqualFunc(a.Packs, b.Packs, isPack)
}

func areMsgs(a, b []api.Msg) bool { return slices.EqualFunc(a, b, isMsg) }

// named is messages as a short text.
func named(l ...api.Msg) string {
	out := []string{}
	for _, m := range l {
		s := fmt.Sprintf("%d of %d (%d to %d)", m.Kind, m.Txn, m.From, m.To)
		if m.Yes {
			s += " yes"
		}
		for _, p := range m.Packs {
			s += fmt.Sprintf(" %d:%s(%d)", p.Owner, p.Man.Name, len(p.Man.Layers))
		}
		out = append(out, s)
	}
	return fmt.Sprint(len(out), ": ", strings.Join(out, ", "))
}

// rightEnds are the ends of all links; wrongEnds some of what is no link; wrongNodes some of what is no node; wrongPlaces some that no link has.

func rightEnds() [][2]int {
	var l [][2]int
	for root := 1; root <= 6; root++ {
		l = append(l, [2]int{0, root}, [2]int{root, 0})
	}
	return l
}

func wrongEnds() [][2]int {
	l := [][2]int{{0, 0}, {1, 1}, {6, 6}, {1, 2}, {2, 1}, {6, 1}, {1, 7}, {7, 1}}
	for _, node := range wrongNodes() {
		l = append(l, [2]int{0, node}, [2]int{node, 0}, [2]int{node, node}, [2]int{1, node}, [2]int{node, 1})
	}
	return l
}

func wrongNodes() []int {
	return []int{7, 8, -1, -6, 64, 255, 256, 257, 1 << 32, 1<<32 + 1, -1 << 32, math.MaxInt, math.MinInt, math.MinInt + 1}
}

func wrongPlaces() []int {
	return []int{-1, -2, 64, 65, 256, 1 << 32, -1 << 32, math.MaxInt, math.MinInt}
}

func rightTxns() []int { return []int{1, 2, 7, 255, 256, 1 << 32, 1<<40 - 1, 1 << 40} }

func wrongTxns() []int {
	return []int{0, -1, -7, 1<<40 + 1, 1 << 41, 1<<40 + 7, math.MaxInt, math.MinInt, math.MinInt + 1, -(1 << 40)}
}

// P14.1: Check

// errorOf is what Check must tell: the first of the chapter's faults, one by one.
func errorOf(m api.Msg) api.Errno {
	one2six := []int{1, 2, 3, 4, 5, 6}
	isDown := m.From == 0 && slices.Contains(one2six, m.To)
	isUp := m.To == 0 && slices.Contains(one2six, m.From)
	for _, x := range []struct {
		is bool
		e  api.Errno
	}{
		{!slices.Contains(one2six, m.Kind), 13},
		{slices.Contains([]int{1, 3, 4}, m.Kind) && !isDown, 2},
		{slices.Contains([]int{2, 5, 6}, m.Kind) && !isUp, 2},
		{m.Txn < 1 || m.Txn > 1<<40, 2},
		{m.Yes && m.Kind != 2, 5},
		{len(m.Packs) > 0 && m.Kind != 1, 5},
		{m.Kind == 1 && rootdb.Check(m.Packs) != 0, rootdb.Check(m.Packs)},
	} {
		if x.is {
			return x.e
		}
	}
	return 0
}

func isChecked(t *testing.T, m api.Msg, want api.Errno) {
	t.Helper()
	if e := Check(m); e != want {
		t.Errorf("Check of %s = %d, want %d", named(m), int(e), int(want))
	}
}

func TestCheckOfWhatMayBe(t *testing.T) {
	for root := 1; root <= 6; root++ {
		for _, txn := range rightTxns() {
			for _, m := range messages(root, txn) {
				isChecked(t, m, api.OK)
			}
		}
	}
	isChecked(t, api.Msg{Kind: 1, To: 1, Txn: 1, Packs: []api.Pack{}}, api.OK)
	isChecked(t, api.Msg{Kind: 3, To: 1, Txn: 1, Packs: []api.Pack{}}, api.OK)
	isChecked(t, api.Msg{Kind: 2, From: 1, Txn: 1, Yes: true, Packs: make([]api.Pack, 0, 5)}, api.OK)
}

// wrongKinds are those beside the six, and some further off.
func wrongKinds() []int {
	return []int{0, 7, -1, 8, 256 + 1, 1<<32 + 1, -6, math.MaxInt, math.MinInt}
}

func TestCheckOfNoKind(t *testing.T) {
	for _, kind := range wrongKinds() {
		for _, m := range messages(3, 7) {
			m.Kind = kind
			isChecked(t, m, api.ErrKind)
		}
		isChecked(t, api.Msg{Kind: kind}, api.ErrKind)
		isChecked(t, api.Msg{Kind: kind, From: 9, To: -1, Txn: -1, Yes: true, Packs: ones(17)}, api.ErrKind)
	}
}

func TestCheckOfWrongEnds(t *testing.T) {
	for _, m := range messages(3, 7) {
		m.From, m.To = m.To, m.From
		isChecked(t, m, api.ErrArg)
		for _, x := range wrongEnds() {
			m.From, m.To = x[0], x[1]
			isChecked(t, m, api.ErrArg)
		}
	}
}

func TestCheckOfWrongTxns(t *testing.T) {
	for _, txn := range wrongTxns() {
		for _, m := range messages(3, txn) {
			isChecked(t, m, api.ErrArg)
		}
	}
}

func TestCheckOfYesAndPacks(t *testing.T) {
	for _, m := range messages(3, 7) {
		m.Yes = true
		if m.Kind == api.MsVote {
			isChecked(t, m, api.OK)
		} else {
			isChecked(t, m, api.ErrForm)
		}
	}
	for _, m := range messages(3, 7)[4:] { // all but prepares
		for _, l := range [][]api.Pack{ones(1), ones(16), ones(17), {{}}, make([]api.Pack, 3)} {
			m.Packs = l
			isChecked(t, m, api.ErrForm)
		}
	}
}

// wrongPacks are packages that a prepare may not have, for each of rootdb.Check's reasons, with its error.
func wrongPacks() map[string]struct {
	l []api.Pack
	e api.Errno
} {
	twice := pack(1, "a", 5, 6)
	twice.Man.Layers[1].Sum = twice.Man.Layers[0].Sum
	noVersion := pack(1, "a", 5)
	noVersion.Man.Version = ""
	eight := make([]int, 8)
	return map[string]struct {
		l []api.Pack
		e api.Errno
	}{
		"an owner 0":               {[]api.Pack{pack(0, "a", 5)}, api.ErrArg},
		"an owner 9":               {[]api.Pack{pack(9, "a", 5)}, api.ErrArg},
		"an owner -1":              {[]api.Pack{pack(-1, "a", 5)}, api.ErrArg},
		"nothing":                  {[]api.Pack{{}}, api.ErrArg},
		"no name":                  {[]api.Pack{pack(1, "", 5)}, api.ErrArg},
		"a name in capitals":       {[]api.Pack{pack(1, "A", 5)}, api.ErrArg},
		"a name of 17 bytes":       {[]api.Pack{pack(1, strings.Repeat("a", 17), 5)}, api.ErrArg},
		"no version":               {[]api.Pack{noVersion}, api.ErrArg},
		"no layers":                {[]api.Pack{pack(1, "a")}, api.ErrNone},
		"9 layers":                 {[]api.Pack{pack(1, "a", make([]int, 9)...)}, api.ErrBig},
		"a size below 0":           {[]api.Pack{pack(1, "a", 5, -1)}, api.ErrArg},
		"a size of 2^31":           {[]api.Pack{pack(1, "a", 1<<31)}, api.ErrArg},
		"a digest twice":           {[]api.Pack{twice}, api.ErrThere},
		"a name twice":             {[]api.Pack{pack(1, "a", 5), pack(2, "b", 5), pack(3, "a", 6)}, api.ErrThere},
		"17 packages":              {ones(17), api.ErrBig},
		"17 layers":                {[]api.Pack{pack(1, "a", eight...), pack(1, "b", eight...), pack(1, "c", 5)}, api.ErrBig},
		"no layers, then no owner": {[]api.Pack{pack(1, "a"), pack(0, "b", 5)}, api.ErrNone},
		"the last has no owner":    {append(ones(15), pack(9, "b", 5)), api.ErrArg},
	}
}

func TestCheckOfWrongPacks(t *testing.T) {
	for name, x := range wrongPacks() {
		if e := rootdb.Check(x.l); e != x.e {
			t.Errorf("%s: rootdb.Check = %d, want %d", name, int(e), int(x.e))
		}
		for root := 1; root <= 6; root++ {
			isChecked(t, prepare(root, 1<<40, x.l...), x.e)
		}
		for _, m := range messages(3, 7)[4:] {
			m.Packs = x.l
			isChecked(t, m, api.ErrForm)
		}
	}
}

// Where several faults are there, the first one is told.
func TestCheckOfSeveralFaults(t *testing.T) {
	for i, x := range []struct {
		m    api.Msg
		want api.Errno
	}{
		{api.Msg{}, api.ErrKind},
		{api.Msg{Kind: 7, From: 1, To: 2, Yes: true, Packs: ones(1)}, api.ErrKind},
		{api.Msg{Kind: 1, From: 1, Txn: 1, Yes: true}, api.ErrArg},
		{api.Msg{Kind: 1, To: 7, Txn: 1, Packs: ones(17)}, api.ErrArg},
		{api.Msg{Kind: 1, To: 1, Packs: ones(17)}, api.ErrArg},
		{api.Msg{Kind: 1, To: 1, Yes: true, Packs: []api.Pack{pack(1, "a")}}, api.ErrArg},
		{api.Msg{Kind: 1, To: 1, Txn: 1, Yes: true, Packs: []api.Pack{pack(1, "a")}}, api.ErrForm},
		{api.Msg{Kind: 1, To: 1, Txn: 1, Yes: true, Packs: ones(17)}, api.ErrForm},
		{api.Msg{Kind: 2, From: 1, Yes: true, Packs: ones(1)}, api.ErrArg},
		{api.Msg{Kind: 2, From: 1, Txn: 1, Yes: true, Packs: ones(17)}, api.ErrForm},
		{api.Msg{Kind: 3, To: 1, Txn: 1<<40 + 1, Yes: true}, api.ErrArg},
		{api.Msg{Kind: 4, Txn: 1, Packs: ones(1)}, api.ErrArg},
		{api.Msg{Kind: 4, To: 1, Txn: 1, Yes: true, Packs: ones(17)}, api.ErrForm},
		{api.Msg{Kind: 5, From: 7, Txn: 1, Yes: true}, api.ErrArg},
		{api.Msg{Kind: 6, From: 6, Txn: -1, Packs: ones(17)}, api.ErrArg},
	} {
		if e := Check(x.m); e != x.want {
			t.Errorf("%d: Check of %s = %d, want %d", i, named(x.m), int(e), int(x.want))
		}
	}
}

func TestCheckOfAllFields(t *testing.T) {
	nodes := []int{0, 1, 2, 5, 6, 7, 8, -1, -6, 256, 1 << 32, math.MaxInt, math.MinInt}
	packs := [][]api.Pack{nil, {}, ones(1), ones(16), ones(17), {pack(1, "a")}, {pack(0, "a", 5)}, {pack(1, "a", 5), pack(1, "a", 5)}}
	told := map[api.Errno]int{}
	for _, kind := range append([]int{1, 2, 3, 4, 5, 6}, wrongKinds()...) {
		for _, from := range nodes {
			for _, to := range nodes {
				for _, txn := range []int{0, 1, 1 << 40, 1<<40 + 1, -1, math.MaxInt, math.MinInt} {
					for i, l := range packs {
						m := api.Msg{Kind: kind, From: from, To: to, Txn: txn, Yes: i%2 == 0, Packs: l}
						for range 2 {
							isChecked(t, m, errorOf(m))
							told[errorOf(m)]++
							m.Yes = !m.Yes
						}
					}
				}
			}
		}
	}
	for _, e := range []api.Errno{api.OK, api.ErrArg, api.ErrBig, api.ErrForm, api.ErrThere, api.ErrNone, api.ErrKind} {
		if told[e] < 5 {
			t.Errorf("the error %d came %d times", int(e), told[e])
		}
	}
}

// A model of nets: all messages stand in one row, in the order in which they came to where they are. It is never changed: each deed makes another one.

type item struct {
	m       api.Msg
	isInBox bool
}

type row []item

// under is where in the row those stand that are under way on a link; box those of a node's box.

func (r row) under(from, to int) []int {
	var l []int
	for i, x := range r {
		if !x.isInBox && x.m.From == from && x.m.To == to {
			l = append(l, i)
		}
	}
	return l
}

func (r row) box(node int) []int {
	var l []int
	for i, x := range r {
		if x.isInBox && x.m.To == node {
			l = append(l, i)
		}
	}
	return l
}

func (r row) msgs(places []int) []api.Msg {
	var l []api.Msg
	for _, i := range places {
		l = append(l, r[i].m)
	}
	return l
}

func (r row) with(m api.Msg, isInBox bool) row {
	return append(slices.Clip(slices.Clone(r)), item{m, isInBox})
}

func (r row) without(places ...int) row {
	var out row
	for i, x := range r {
		if !slices.Contains(places, i) {
			out = append(out, x)
		}
	}
	return out
}

// deed is a call that changes a net. Take and Clear are of the node to.
type deed struct {
	name         string
	m            api.Msg
	from, to, at int
}

func (y deed) String() string {
	if y.name == "Send" {
		return fmt.Sprintf("Send of %s", named(y.m))
	}
	return fmt.Sprintf("%s(%d, %d, %d)", y.name, y.from, y.to, y.at)
}

func send(m api.Msg) deed { return deed{name: "Send", m: m} }

func deliver(from, to, at int) deed { return deed{name: "Deliver", from: from, to: to, at: at} }

func drop(from, to, at int) deed { return deed{name: "Drop", from: from, to: to, at: at} }

func double(from, to, at int) deed { return deed{name: "Double", from: from, to: to, at: at} }

func take(node int) deed { return deed{name: "Take", to: node} }

func clearOf(node int) deed { return deed{name: "Clear", to: node} }

// answer is what a call answers.
type answer struct {
	e  api.Errno
	m  api.Msg
	ok bool
	n  int
}

func (a answer) is(b answer) bool {
	return a.e == b.e && isMsg(a.m, b.m) && a.ok == b.ok && a.n == b.n
}

func (a answer) String() string {
	return fmt.Sprintf("%d, %s, %v, %d", int(a.e), named(a.m), a.ok, a.n)
}

// plan is what a deed must make of a row, and what it must answer.
func (y deed) plan(r row) (row, answer) {
	box := r.box(y.to)
	switch y.name {
	case "Send":
		switch e := errorOf(y.m); {
		case e != 0:
			return r, answer{e: e}
		case len(r.under(y.m.From, y.m.To)) == 64:
			return r, answer{e: 7}
		}
		return r.with(y.m, false), answer{}
	case "Take":
		if len(box) == 0 {
			return r, answer{}
		}
		return r.without(box[0]), answer{m: r[box[0]].m, ok: true}
	case "Clear":
		return r.without(box...), answer{n: len(box)}
	}
	under := r.under(y.from, y.to)
	if y.at < 0 || y.at >= len(under) {
		return r, answer{e: 9}
	}
	place := under[y.at]
	switch {
	case y.name == "Double" && len(under) == 64 || y.name == "Deliver" && len(box) == 64:
		return r, answer{e: 7}
	case y.name == "Double":
		return r.with(r[place].m, false), answer{}
	case y.name == "Deliver":
		return r.without(place).with(r[place].m, true), answer{}
	}
	return r.without(place), answer{} // Drop
}

func (y deed) on(n *Net) (a answer) {
	switch y.name {
	case "Send":
		a.e = n.Send(y.m)
	case "Deliver":
		a.e = n.Deliver(y.from, y.to, y.at)
	case "Drop":
		a.e = n.Drop(y.from, y.to, y.at)
	case "Double":
		a.e = n.Double(y.from, y.to, y.at)
	case "Take":
		a.m, a.ok = n.Take(y.to)
	case "Clear":
		a.n = n.Clear(y.to)
	}
	return a
}

// isNet fails where a net tells anything else than a row has: of all nodes, and of what is none.
func isNet(t *testing.T, n *Net, r row, why string) {
	t.Helper()
	for node := -1; node <= 8; node++ {
		if l := n.Box(node); !areMsgs(l, r.msgs(r.box(node))) {
			t.Fatalf("%s: Box(%d) is %s, want %s", why, node, named(l...), named(r.msgs(r.box(node))...))
		}
		for to := -1; to <= 8; to++ {
			if l := n.Link(node, to); !areMsgs(l, r.msgs(r.under(node, to))) {
				t.Fatalf("%s: Link(%d, %d) is %s, want %s", why, node, to, named(l...), named(r.msgs(r.under(node, to))...))
			}
		}
	}
}

// both is a net, and what it must have.
type both struct {
	n   *Net
	row row
}

func fresh() *both { return &both{n: New()} }

// run is a net behind these deeds, none of which is refused.
func run(t *testing.T, deeds ...deed) *both {
	t.Helper()
	x := fresh()
	x.must(t, deeds...)
	return x
}

// do does a deed, and fails where the answer, or what the net has then, is not as the chapter says.
func (x *both) do(t *testing.T, y deed) answer {
	t.Helper()
	a := x.quick(t, y)
	isNet(t, x.n, x.row, fmt.Sprint("behind ", y))
	return a
}

// quick does a deed, and looks at the answer alone.
func (x *both) quick(t *testing.T, y deed) answer {
	t.Helper()
	next, want := y.plan(x.row)
	if a := y.on(x.n); !a.is(want) {
		t.Fatalf("%v = %v, want %v", y, a, want)
	}
	x.row = next
	return want
}

func (x *both) must(t *testing.T, deeds ...deed) {
	t.Helper()
	x.answers(t, api.OK, deeds...)
}

func (x *both) answers(t *testing.T, want api.Errno, deeds ...deed) {
	t.Helper()
	for _, y := range deeds {
		if a := x.do(t, y); a.e != want {
			t.Fatalf("%v = %d, want %d", y, int(a.e), int(want))
		}
	}
}

// message is one of a link, some of each kind, with packages where it may have any.
func message(from, to, txn int) api.Msg {
	switch {
	case from == 0 && txn%3 == 0:
		return prepare(to, txn, ones(txn%4)...)
	case from == 0 && txn%3 == 1:
		return commit(to, txn)
	case from == 0:
		return abort(to, txn)
	case txn%3 == 0:
		return vote(from, txn, txn%2 == 0)
	case txn%3 == 1:
		return ack(from, txn)
	}
	return ask(from, txn)
}

// fill sends n messages on a link, of the transactions from first on; fillBox delivers n to a node, from one other.

func (x *both) fill(t *testing.T, from, to, first, n int) {
	t.Helper()
	for i := range n {
		if a := x.quick(t, send(message(from, to, first+i))); a.e != api.OK {
			t.Fatalf("message %d: %d", i, int(a.e))
		}
	}
	isNet(t, x.n, x.row, "filled")
}

func (x *both) fillBox(t *testing.T, from, to, first, n int) {
	t.Helper()
	for i := range n {
		x.quick(t, send(message(from, to, first+i)))
		if a := x.quick(t, deliver(from, to, 0)); a.e != api.OK {
			t.Fatalf("message %d: %d", i, int(a.e))
		}
	}
	isNet(t, x.n, x.row, "filled")
}

// busy is a net with some messages on all links, and in all boxes.
func busy(t *testing.T) *both {
	t.Helper()
	x := fresh()
	for i, y := range rightEnds() {
		x.fillBox(t, y[0], y[1], 1000*(i+1), 1+i%3)
		x.fill(t, y[0], y[1], 100*(i+1), 2+i%4)
	}
	return x
}

func TestTheExample(t *testing.T) {
	n := New()
	if n == nil || n.Send(ask(2, 7)) != api.OK || n.Double(2, 0, 0) != api.OK || n.Deliver(2, 0, 1) != api.OK {
		t.Fatal("refused")
	}
	if l, box := n.Link(2, 0), n.Box(0); !areMsgs(l, []api.Msg{ask(2, 7)}) || !areMsgs(box, []api.Msg{ask(2, 7)}) {
		t.Errorf("%s and %s", named(l...), named(box...))
	}
}

func TestByHand(t *testing.T) {
	n := New()
	first, second, third := prepare(1, 7, ones(2)...), commit(1, 8), abort(1, 9)
	for _, m := range []api.Msg{first, second, third, vote(1, 7, true)} {
		if e := n.Send(m); e != api.OK {
			t.Fatal(int(e))
		}
	}
	is := func(why string, l []api.Msg, want ...api.Msg) {
		t.Helper()
		if !areMsgs(l, want) {
			t.Fatalf("%s: %s, want %s", why, named(l...), named(want...))
		}
	}
	is("sent", n.Link(0, 1), first, second, third)
	is("sent", n.Link(1, 0), vote(1, 7, true))
	is("sent", n.Box(1))
	if n.Deliver(0, 1, 1) != api.OK || n.Double(0, 1, 0) != api.OK || n.Deliver(0, 1, 3) != api.ErrNone || n.Drop(0, 1, 1) != api.OK {
		t.Fatal("refused")
	}
	is("delivered, doubled, dropped", n.Link(0, 1), first, first)
	is("delivered", n.Box(1), second)
	if n.Deliver(0, 1, 1) != api.OK || n.Deliver(1, 0, 0) != api.OK {
		t.Fatal("refused")
	}
	is("delivered", n.Link(0, 1), first)
	is("delivered", n.Box(1), second, first)
	is("delivered", n.Link(1, 0))
	is("delivered", n.Box(0), vote(1, 7, true))
	if m, ok := n.Take(1); !ok || !isMsg(m, second) {
		t.Errorf("%s, %v", named(m), ok)
	}
	is("taken", n.Box(1), first)
	if lost := n.Clear(1); lost != 1 {
		t.Error(lost)
	}
	is("cleared", n.Box(1))
	is("cleared", n.Box(0), vote(1, 7, true))
	if m, ok := n.Take(1); ok || !isMsg(m, api.Msg{}) {
		t.Errorf("%s, %v", named(m), ok)
	}
}

// P14.2: Send, Double

func TestSendOfEachMessage(t *testing.T) {
	x := fresh()
	for root := 1; root <= 6; root++ {
		for _, m := range messages(root, 7*root) {
			x.must(t, send(m))
		}
	}
	for _, txn := range rightTxns() {
		x.must(t, send(ask(1, txn)))
	}
	x.must(t, send(ask(1, 7)), send(ask(1, 7))) // the same ones again are others
}

func TestSendIsRefused(t *testing.T) {
	for _, x := range []*both{fresh(), busy(t)} {
		for name, y := range wrongPacks() {
			if a := x.do(t, send(prepare(1, 7, y.l...))); a.e != y.e {
				t.Errorf("%s: %d", name, int(a.e))
			}
		}
		for _, m := range messages(3, 7) {
			turned, yes, packs := m, m, m
			turned.From, turned.To = m.To, m.From
			x.answers(t, api.ErrArg, send(turned))
			if yes.Yes = true; m.Kind != api.MsVote {
				x.answers(t, api.ErrForm, send(yes))
			}
			if packs.Packs = ones(1); m.Kind != api.MsPrepare {
				x.answers(t, api.ErrForm, send(packs))
			}
			for _, kind := range wrongKinds() {
				m.Kind = kind
				x.answers(t, api.ErrKind, send(m))
			}
		}
		for _, txn := range wrongTxns() {
			x.answers(t, api.ErrArg, send(commit(1, txn)), send(ask(1, txn)))
		}
		for _, y := range wrongEnds() {
			x.answers(t, api.ErrArg, send(api.Msg{Kind: 3, From: y[0], To: y[1], Txn: 7}), send(api.Msg{Kind: 6, From: y[0], To: y[1], Txn: 7}))
		}
		x.answers(t, api.ErrKind, send(api.Msg{}))
	}
}

func TestSendOnAFullLink(t *testing.T) {
	for _, y := range rightEnds() {
		x := busy(t)
		from, to := y[0], y[1]
		x.fill(t, from, to, 5000, 63-len(x.row.under(from, to)))
		x.must(t, send(message(from, to, 6000)))
		for txn := 6001; txn < 6004; txn++ {
			x.answers(t, api.ErrFull, send(message(from, to, txn)))
		}
		x.answers(t, api.ErrArg, send(message(from, to, 0)), send(message(from, to, 1<<40+1))) // what is wrong with the message is told first
		for _, z := range rightEnds() {                                                        // the others have room
			if z != y {
				x.must(t, send(message(z[0], z[1], 6005)))
			}
		}
		x.must(t, drop(from, to, 63), send(message(from, to, 6006)))
		x.answers(t, api.ErrFull, send(message(from, to, 6007)))
		x.must(t, deliver(from, to, 0), send(message(from, to, 6008)))
		x.answers(t, api.ErrFull, send(message(from, to, 6009)))
	}
}

func TestDouble(t *testing.T) {
	for _, y := range rightEnds() {
		from, to := y[0], y[1]
		x := busy(t)
		n := len(x.row.under(from, to))
		for at := range n {
			x.must(t, double(from, to, at), double(from, to, at))
		}
		n = len(x.row.under(from, to))
		x.answers(t, api.ErrNone, double(from, to, n), double(from, to, n+1))
		x.must(t, double(from, to, n-1), double(from, to, n), drop(from, to, 0), deliver(from, to, 0)) // one more like that which came by it
	}
}

func TestDoubleOnAFullLink(t *testing.T) {
	for _, y := range rightEnds() {
		from, to := y[0], y[1]
		for _, at := range []int{0, 31, 62} {
			x := busy(t)
			x.fill(t, from, to, 5000, 63-len(x.row.under(from, to)))
			x.must(t, double(from, to, at))
			x.answers(t, api.ErrFull, double(from, to, at), double(from, to, 0), double(from, to, 63))
			for _, at := range wrongPlaces() { // that there is none is told first
				x.answers(t, api.ErrNone, double(from, to, at))
			}
			x.must(t, drop(from, to, 5), double(from, to, 62))
			x.answers(t, api.ErrFull, double(from, to, 63))
		}
	}
}

func TestDoubleOfTheOnlyOne(t *testing.T) {
	for _, m := range messages(3, 7) {
		x := run(t, send(m))
		for range 63 {
			x.must(t, double(m.From, m.To, 0))
		}
		x.answers(t, api.ErrFull, double(m.From, m.To, 0), send(m))
	}
}

// P14.2 and P14.3: places, links and nodes that are none

func TestNoSuchPlace(t *testing.T) {
	calls := []func(from, to, at int) deed{double, deliver, drop}
	for _, call := range calls {
		for _, y := range rightEnds() {
			x := busy(t)
			n := len(x.row.under(y[0], y[1]))
			for _, at := range append(wrongPlaces(), n, n+1, -n) {
				x.answers(t, api.ErrNone, call(y[0], y[1], at))
			}
			x.must(t, call(y[0], y[1], n-1), call(y[0], y[1], 0))
			empty := fresh()
			for _, at := range append(wrongPlaces(), 0, 1) {
				empty.answers(t, api.ErrNone, call(y[0], y[1], at))
			}
			empty.must(t, send(message(y[0], y[1], 7)))
			empty.answers(t, api.ErrNone, call(y[0], y[1], 1), call(y[0], y[1], -1), call(y[1], y[0], 0))
			empty.must(t, call(y[0], y[1], 0))
		}
	}
}

func TestNoLink(t *testing.T) {
	x := busy(t)
	for _, y := range wrongEnds() {
		for _, at := range append(wrongPlaces(), 0, 1) {
			for _, call := range []func(from, to, at int) deed{double, deliver, drop} {
				if a := x.quick(t, call(y[0], y[1], at)); a.e != api.ErrNone {
					t.Errorf("%v, %d: %d", y, at, int(a.e))
				}
			}
		}
		if l := x.n.Link(y[0], y[1]); len(l) != 0 {
			t.Errorf("%v: %s", y, named(l...))
		}
	}
	isNet(t, x.n, x.row, "behind calls of what is no link")
}

// P14.3: Deliver, Drop

func TestDeliverFromEachPlace(t *testing.T) {
	for _, y := range rightEnds() {
		from, to := y[0], y[1]
		for at := range 5 {
			x := busy(t)
			x.fill(t, from, to, 5000, 5-len(x.row.under(from, to)))
			x.must(t, deliver(from, to, at), deliver(from, to, 3), deliver(from, to, 0), deliver(from, to, 0), deliver(from, to, 0))
			x.answers(t, api.ErrNone, deliver(from, to, 0))
		}
	}
}

func TestDropFromEachPlace(t *testing.T) {
	for _, y := range rightEnds() {
		from, to := y[0], y[1]
		for at := range 5 {
			x := busy(t)
			x.fill(t, from, to, 5000, 5-len(x.row.under(from, to)))
			x.must(t, drop(from, to, at), drop(from, to, 3), drop(from, to, 0), send(message(from, to, 6000)), drop(from, to, 1), drop(from, to, 0), drop(from, to, 0))
			x.answers(t, api.ErrNone, drop(from, to, 0))
		}
	}
}

func TestDeliverIntoAFullBox(t *testing.T) {
	for _, y := range rightEnds() {
		from, to := y[0], y[1]
		x := busy(t)
		x.fillBox(t, from, to, 5000, 63-len(x.row.box(to)))
		x.must(t, send(message(from, to, 6000)), deliver(from, to, 1))
		n := len(x.row.under(from, to))
		for at := range n {
			x.answers(t, api.ErrFull, deliver(from, to, at))
		}
		for _, at := range append(wrongPlaces(), n, n+1) { // that there is none is told first
			x.answers(t, api.ErrNone, deliver(from, to, at))
		}
		for _, z := range rightEnds() {
			if z[1] == to {
				x.answers(t, api.ErrFull, deliver(z[0], z[1], 0))
			} else {
				x.must(t, deliver(z[0], z[1], 0))
			}
		}
		x.must(t, drop(from, to, 0), double(from, to, 0), send(message(from, to, 6001))) // these ask for no room in the box
		x.answers(t, api.ErrFull, deliver(from, to, 0))
		x.must(t, take(to), deliver(from, to, 0))
		x.answers(t, api.ErrFull, deliver(from, to, 0))
		if a := x.do(t, clearOf(to)); a.n != 64 {
			t.Errorf("%d messages", a.n)
		}
		x.must(t, deliver(from, to, 0))
	}
}

// All links and all boxes are full at once.
func TestAllFull(t *testing.T) {
	x := fresh()
	for i, y := range rightEnds() {
		x.fillBox(t, y[0], y[1], 100*i+1, 64-len(x.row.box(y[1])))
		x.fill(t, y[0], y[1], 10000*(i+1), 64)
	}
	if len(x.row) != 12*64+7*64 {
		t.Fatalf("%d messages", len(x.row))
	}
	for _, y := range rightEnds() {
		x.answers(t, api.ErrFull, send(message(y[0], y[1], 7)), double(y[0], y[1], 0), deliver(y[0], y[1], 63))
	}
	for node := range 7 {
		for range 64 {
			if a := x.quick(t, take(node)); !a.ok {
				t.Fatalf("node %d has nothing", node)
			}
		}
		if a := x.do(t, take(node)); a.ok {
			t.Errorf("node %d: %v", node, a)
		}
	}
}

// P14.4: Take, Clear

func TestTakeInOrder(t *testing.T) {
	x := run(t, send(ask(1, 1)), send(ask(2, 2)), send(ask(1, 3)), send(vote(3, 4, true)), deliver(2, 0, 0), deliver(1, 0, 1), deliver(3, 0, 0), deliver(1, 0, 0))
	for _, want := range []api.Msg{ask(2, 2), ask(1, 3), vote(3, 4, true), ask(1, 1)} {
		if a := x.do(t, take(0)); !a.ok || !isMsg(a.m, want) {
			t.Errorf("%v, want %s", a, named(want))
		}
	}
	for range 2 {
		if a := x.do(t, take(0)); a.ok {
			t.Errorf("%v", a)
		}
	}
	x.must(t, send(ask(1, 5)), deliver(1, 0, 0), take(0))
}

func TestTakeOfEachMessage(t *testing.T) {
	for _, m := range messages(5, 1<<40) {
		x := run(t, send(m), deliver(m.From, m.To, 0))
		if a := x.do(t, take(m.To)); !a.ok || !isMsg(a.m, m) {
			t.Errorf("%v, want %s", a, named(m))
		}
		if a := x.do(t, take(m.To)); a.ok {
			t.Errorf("%v", a)
		}
	}
}

func TestClear(t *testing.T) {
	for node := range 7 {
		x := busy(t)
		n := len(x.row.box(node))
		if a := x.do(t, clearOf(node)); a.n != n || n == 0 {
			t.Errorf("Clear(%d) = %d, want %d", node, a.n, n)
		}
		for range 2 {
			if a := x.do(t, clearOf(node)); a.n != 0 {
				t.Errorf("Clear(%d) of nothing = %d", node, a.n)
			}
		}
		if a := x.do(t, take(node)); a.ok {
			t.Errorf("%v", a)
		}
		for _, y := range rightEnds() {
			x.must(t, deliver(y[0], y[1], 0))
		}
		if a := x.do(t, take(node)); !a.ok {
			t.Errorf("node %d has nothing", node)
		}
	}
}

func TestNoNode(t *testing.T) {
	for _, x := range []*both{fresh(), busy(t)} {
		for _, node := range wrongNodes() {
			if m, ok := x.n.Take(node); ok || !isMsg(m, api.Msg{}) {
				t.Errorf("Take(%d) = %s, %v", node, named(m), ok)
			}
			if lost := x.n.Clear(node); lost != 0 {
				t.Errorf("Clear(%d) = %d", node, lost)
			}
			if l := x.n.Box(node); len(l) != 0 {
				t.Errorf("Box(%d) is %s", node, named(l...))
			}
		}
		isNet(t, x.n, x.row, "behind calls of what is no node")
	}
}

func TestEmptyNet(t *testing.T) {
	x := fresh()
	isNet(t, x.n, nil, "new")
	for node := range 7 {
		x.do(t, take(node))
		x.do(t, clearOf(node))
	}
}

// P14.5: Link, Box, Copy

func TestCopy(t *testing.T) {
	x := busy(t)
	y := &both{n: x.n.Copy(), row: x.row}
	isNet(t, y.n, y.row, "copied")
	z := &both{n: y.n.Copy(), row: y.row}
	for i, e := range rightEnds() {
		from, to := e[0], e[1]
		x.must(t, send(message(from, to, 9000+i)), deliver(from, to, 0), drop(from, to, 0))
		isNet(t, y.n, y.row, "the other one was changed")
		y.must(t, double(from, to, 0), deliver(from, to, 1), take(to), send(message(from, to, 9100+i)))
		isNet(t, x.n, x.row, "the other one was changed")
		x.must(t, clearOf(to), send(message(from, to, 9200+i)))
		isNet(t, y.n, y.row, "the other one was changed")
		isNet(t, z.n, z.row, "the copy of the copy was changed")
	}
	z.must(t, take(0), clearOf(1), double(1, 0, 0))
	isNet(t, x.n, x.row, "the copy's copy was changed")
	isNet(t, y.n, y.row, "the copy was changed")
}

// Two nets that begin alike, each of whose lists may have room for more, go on with messages of their own, now the one, now the other.
func TestCopyOfEachLength(t *testing.T) {
	for n := range 65 {
		x := fresh()
		x.fillBox(t, 0, 2, 500, n)
		x.fill(t, 0, 2, 1000, n)
		y := &both{n: x.n.Copy(), row: x.row}
		for i := range 3 {
			x.do(t, send(message(0, 2, 2000+i)))
			y.do(t, send(message(0, 2, 3000+i)))
			isNet(t, x.n, x.row, "the copy sent")
			x.do(t, deliver(0, 2, i))
			y.do(t, deliver(0, 2, i+1))
			isNet(t, x.n, x.row, "the copy delivered")
		}
	}
}

func TestCopyOfAnEmptyNet(t *testing.T) {
	x := fresh()
	y := &both{n: x.n.Copy()}
	if y.n == nil {
		t.Fatal("nil")
	}
	y.must(t, send(ask(1, 7)), deliver(1, 0, 0))
	isNet(t, x.n, x.row, "the copy was changed")
	x.must(t, send(ask(2, 8)))
	isNet(t, y.n, y.row, "the other one was changed")
}

func TestNetsAreApart(t *testing.T) {
	x := busy(t)
	y := fresh()
	isNet(t, y.n, nil, "another one")
	y.must(t, send(ask(1, 7)))
	isNet(t, x.n, x.row, "the other one was changed")
}

// The rule of objects that no call made

func TestNoNet(t *testing.T) {
	var none *Net
	for name, n := range map[string]*Net{"nil": nil, "plain": {}, "new": new(Net), "a copy": none.Copy(), "a plain one's copy": new(Net).Copy()} {
		for range 2 { // the first round has changed nothing
			for _, m := range append(messages(3, 7), api.Msg{}, commit(7, 7), prepare(1, 7, ones(17)...)) {
				if e := n.Send(m); e != api.ErrNil {
					t.Errorf("%s: Send = %d", name, int(e))
				}
			}
			for _, y := range append(rightEnds(), wrongEnds()...) {
				for _, at := range append(wrongPlaces(), 0, 1) {
					deliver, drop, double := n.Deliver(y[0], y[1], at), n.Drop(y[0], y[1], at), n.Double(y[0], y[1], at)
					if deliver != api.ErrNil || drop != api.ErrNil || double != api.ErrNil {
						t.Errorf("%s: Deliver = %d, Drop = %d, Double = %d", name, int(deliver), int(drop), int(double))
					}
				}
				if l := n.Link(y[0], y[1]); len(l) != 0 {
					t.Errorf("%s: Link is %s", name, named(l...))
				}
			}
			for _, node := range append(wrongNodes(), 0, 1, 2, 3, 4, 5, 6) {
				m, ok := n.Take(node)
				if lost := n.Clear(node); ok || !isMsg(m, api.Msg{}) || lost != 0 || len(n.Box(node)) != 0 {
					t.Errorf("%s: Take(%d) = %s, %v, Clear = %d", name, node, named(m), ok, lost)
				}
			}
			if n.Copy() != nil {
				t.Errorf("%s: there is a copy", name)
			}
		}
	}
}

// P14.6

// rowDeeds are calls on three links and two boxes; each message has a transaction of its own.
func rowDeeds(txn int) []deed {
	return []deed{
		send(vote(1, txn, true)), send(ask(2, txn)), send(prepare(1, txn, pack(1, "a", txn))),
		double(1, 0, 0), double(1, 0, 1), double(0, 1, 0),
		deliver(1, 0, 0), deliver(1, 0, 1), deliver(2, 0, 0), deliver(0, 1, 0),
		drop(1, 0, 0), drop(1, 0, 1), take(0), take(1), clearOf(0),
	}
}

// All rows of up to 5 calls: each goes on from a copy of the net behind the row ahead of it, which stays as it was.
func TestAllRows(t *testing.T) {
	rows := 0
	var from func(x *both, left int)
	from = func(x *both, left int) {
		rows++
		if left == 0 {
			return
		}
		for _, y := range rowDeeds(left) {
			next := &both{n: x.n.Copy(), row: x.row}
			next.quick(t, y)
			isSmall(t, next, y)
			from(next, left-1)
		}
		isSmall(t, x, deed{name: "copies"})
	}
	from(fresh(), 5)
	if want := 1 + 15 + 15*15 + 15*15*15 + 15*15*15*15 + 15*15*15*15*15; rows != want {
		t.Errorf("%d rows, want %d", rows, want)
	}
}

// isSmall fails where a net of the rows tells anything else than it must: of the nodes 0 to 2.
func isSmall(t *testing.T, x *both, y deed) {
	t.Helper()
	for from := range 3 {
		if l := x.n.Box(from); !areMsgs(l, x.row.msgs(x.row.box(from))) {
			t.Fatalf("behind %v: Box(%d) is %s, of %v", y, from, named(l...), x.row)
		}
		for to := range 3 {
			if l := x.n.Link(from, to); !areMsgs(l, x.row.msgs(x.row.under(from, to))) {
				t.Fatalf("behind %v: Link(%d, %d) is %s, of %v", y, from, to, named(l...), x.row)
			}
		}
	}
}

// anyDeed is a call by chance, of a place that there is, or of one that is near.
func anyDeed(chance *rand.Rand, r row, txn int) deed {
	x := rightEnds()[chance.Intn(12)]
	if chance.Intn(30) == 0 {
		x = wrongEnds()[chance.Intn(len(wrongEnds()))]
	}
	from, to := x[0], x[1]
	at := chance.Intn(len(r.under(from, to))+2) - chance.Intn(2)
	switch chance.Intn(20) {
	case 0, 1, 2:
		return double(from, to, at)
	case 3, 4, 5, 6:
		return deliver(from, to, at)
	case 7:
		return drop(from, to, at)
	case 8, 9:
		return take(to)
	case 10:
		if chance.Intn(20) == 0 {
			return clearOf(to)
		}
		return take(to)
	case 11:
		m := message(from, to, txn)
		spoilt := []api.Msg{m, m, m, m, m}
		spoilt[0].Kind = wrongKinds()[chance.Intn(len(wrongKinds()))]
		spoilt[1].Txn = wrongTxns()[chance.Intn(len(wrongTxns()))]
		spoilt[2].Yes = !m.Yes
		spoilt[3].Packs = ones(chance.Intn(20))
		spoilt[4].From, spoilt[4].To = to, from
		return send(spoilt[chance.Intn(len(spoilt))])
	}
	return send(message(from, to, txn))
}

func TestRowsByChance(t *testing.T) {
	told := map[string]int{}
	for seed := range int64(12) {
		chance := rand.New(rand.NewSource(seed))
		x := fresh()
		for i := range 2500 {
			y := anyDeed(chance, x.row, i+1)
			if y.name == "Take" && seed%2 == 1 && chance.Intn(8) > 0 { // so that boxes run full
				continue
			}
			a := x.quick(t, y)
			told[fmt.Sprint(y.name, " ", int(a.e), " ", a.ok)]++
			if i%5 == 0 {
				isNet(t, x.n, x.row, fmt.Sprint("behind ", y))
			}
			if i%500 == 499 { // from here on another one goes on
				x.n = x.n.Copy()
			}
		}
	}
	for _, name := range []string{"Send 0 false", "Send 2 false", "Send 5 false", "Send 7 false", "Send 13 false", "Double 0 false", "Double 7 false", "Double 9 false", "Deliver 0 false", "Deliver 7 false", "Deliver 9 false", "Drop 0 false", "Drop 9 false", "Take 0 false", "Take 0 true", "Clear 0 false"} {
		if told[name] < 10 {
			t.Errorf("%s: %d times, of %v", name, told[name], told)
		}
	}
}

// sender lets messages go, each of a transaction of its own, and knows what it sent and how often that may be told.
type sender struct {
	n     *Net
	sent  map[int]api.Msg
	times map[int]int
}

// wasSent fails where one of these messages, of that node, was not sent there as it is.
func (s *sender) wasSent(t *testing.T, node int, l ...api.Msg) {
	t.Helper()
	for _, m := range l {
		if !isMsg(m, s.sent[m.Txn]) || m.To != node {
			t.Fatalf("%s at node %d, sent was %s", named(m), node, named(s.sent[m.Txn]))
		}
	}
}

// step does one thing by chance on a link; it tells how many messages were taken.
func (s *sender) step(t *testing.T, chance *rand.Rand, from, to, txn int) int {
	t.Helper()
	under := s.n.Link(from, to)
	at := chance.Intn(len(under) + 1)
	switch chance.Intn(8) {
	case 0:
		if s.n.Double(from, to, at) == api.OK {
			s.times[under[at].Txn]++
		}
	case 1, 2:
		s.n.Deliver(from, to, at)
	case 3:
		s.n.Drop(from, to, at)
	case 4:
		s.n.Send(api.Msg{Kind: chance.Intn(9) - 1, From: from, To: to, Txn: -txn}) // it is refused
	case 5:
		if m, ok := s.n.Take(to); ok {
			s.wasSent(t, to, m)
			s.times[m.Txn]--
			return 1
		}
	default:
		if m := message(from, to, txn); s.n.Send(m) == api.OK {
			s.sent[txn] = m
			s.times[txn]++
		}
	}
	s.wasSent(t, to, s.n.Link(from, to)...)
	s.wasSent(t, to, s.n.Box(to)...)
	return 0
}

// Whatever is told of a net was sent, just as it was, to where it is; and no more often than it was sent and doubled.
func TestNothingArrivesThatWasNotSent(t *testing.T) {
	taken := 0
	for seed := range int64(6) {
		chance := rand.New(rand.NewSource(100 + seed))
		s := &sender{New(), map[int]api.Msg{}, map[int]int{}}
		for txn := 1; txn < 3000; txn++ {
			x := rightEnds()[chance.Intn(12)]
			taken += s.step(t, chance, x[0], x[1], txn)
		}
		for _, x := range rightEnds() {
			for _, m := range s.n.Link(x[0], x[1]) {
				s.times[m.Txn]--
			}
		}
		for node := range 7 {
			for _, m := range s.n.Box(node) {
				s.times[m.Txn]--
			}
		}
		for txn, left := range s.times {
			if left < 0 {
				t.Errorf("%s came %d times too often", named(s.sent[txn]), -left)
			}
		}
	}
	if taken < 500 {
		t.Errorf("only %d messages were taken", taken)
	}
}

// What is done on other links changes nothing: each link goes as it does in a net where nothing else is done.
func TestLinksAreApart(t *testing.T) {
	for seed := range int64(6) {
		chance := rand.New(rand.NewSource(200 + seed))
		n, alone := New(), map[[2]int]*Net{}
		for _, x := range rightEnds() {
			alone[x] = New()
		}
		for txn := 1; txn < 3000; txn++ {
			x := rightEnds()[chance.Intn(12)]
			y := anyDeed(chance, nil, txn)
			at := chance.Intn(len(n.Link(x[0], x[1])) + 1)
			switch y.name {
			case "Send":
				y = send(message(x[0], x[1], txn))
			case "Take", "Clear":
				continue
			default:
				y.from, y.to, y.at = x[0], x[1], at
			}
			if a, b := y.on(n), y.on(alone[x]); !a.is(b) {
				t.Fatalf("%v = %v, alone %v", y, a, b)
			}
			if l, want := n.Box(x[1]), alone[x].Box(x[1]); !areMsgs(l, want) { // boxes are empty ahead of each call
				t.Fatalf("%v: Box is %s, alone %s", y, named(l...), named(want...))
			}
			n.Clear(x[1])
			alone[x].Clear(x[1])
			for _, z := range rightEnds() {
				if l, want := n.Link(z[0], z[1]), alone[z].Link(z[0], z[1]); !areMsgs(l, want) {
					t.Fatalf("%v: Link(%d, %d) is %s, alone %s", y, z[0], z[1], named(l...), named(want...))
				}
			}
		}
	}
}

// Without losses and doubles, delivered from the first place always: each link's messages arrive in order, whatever is done on the others.
func TestFirstPlacesKeepTheOrder(t *testing.T) {
	for seed := range int64(6) {
		chance := rand.New(rand.NewSource(300 + seed))
		n := New()
		sent, came := map[[2]int][]api.Msg{}, map[[2]int][]api.Msg{}
		refused := 0
		takes := func(node int) {
			if m, ok := n.Take(node); ok {
				x := [2]int{m.From, m.To}
				came[x] = append(came[x], m)
			}
		}
		for txn := 1; txn < 20000; txn++ {
			x := rightEnds()[chance.Intn(12)]
			switch chance.Intn(5) {
			case 0, 1:
				if m := message(x[0], x[1], txn); n.Send(m) == api.OK {
					sent[x] = append(sent[x], m)
				}
			case 2, 3:
				if n.Deliver(x[0], x[1], 0) == api.ErrFull {
					refused++
				}
			case 4:
				takes(x[1])
			}
		}
		for _, x := range rightEnds() { // the rest
			for range 200 {
				n.Deliver(x[0], x[1], 0)
				takes(x[1])
			}
		}
		for _, x := range rightEnds() {
			if !areMsgs(came[x], sent[x]) || len(came[x]) < 100 {
				t.Errorf("from %d to %d %d were sent, %d came", x[0], x[1], len(sent[x]), len(came[x]))
			}
		}
		if refused < 10 {
			t.Errorf("only %d were refused by a full box", refused)
		}
	}
}

// The same calls tell the same.
func TestTheSameAgain(t *testing.T) {
	x, y := busy(t), busy(t)
	chance := rand.New(rand.NewSource(1))
	for i := range 1000 {
		z := anyDeed(chance, x.row, 20000+i)
		if a, b := x.quick(t, z), y.quick(t, z); !a.is(b) {
			t.Fatalf("%v: %v and %v", z, a, b)
		}
	}
	isNet(t, y.n, x.row, "the same calls")
}

// Rule 5: memory

// roomy is the same message with packages in lists that have memory behind their lengths; memory all that its packages stand in, with what is behind the lengths; spoil writes over all of it.

func roomy(m api.Msg) api.Msg {
	packs := make([]api.Pack, 0, len(m.Packs)+3)
	for _, p := range m.Packs {
		refs := append(make([]api.Ref, 0, len(p.Man.Layers)+3), p.Man.Layers...)
		for k := len(refs); k < cap(refs); k++ {
			refs[:cap(refs)][k].Size = 1000 + k
		}
		p.Man.Layers = refs
		packs = append(packs, p)
	}
	for i := len(packs); i < cap(packs); i++ {
		packs[:cap(packs)][i].Owner = 1000 + i
	}
	m.Packs = packs
	return m
}

func memory(l []api.Pack) string {
	out := ""
	for _, p := range l[:cap(l)] {
		out += fmt.Sprint(p.Owner, p.Man.Name, p.Man.Version, p.Man.Layers[:cap(p.Man.Layers)])
	}
	return out
}

func spoil(l ...api.Msg) {
	for i, m := range l {
		packs := m.Packs[:cap(m.Packs)]
		for k, p := range packs {
			refs := p.Man.Layers[:cap(p.Man.Layers)]
			for j := range refs {
				refs[j] = api.Ref{Sum: api.Digest{99, byte(j)}, Size: 99}
			}
			packs[k] = api.Pack{Owner: 99, Man: api.Manifest{Name: "spoilt"}}
		}
		l[i] = api.Msg{Kind: 99, From: 99, To: 99, Txn: 99, Yes: true}
	}
}

func spoilAll(l []api.Msg) { spoil(l[:cap(l)]...) }

// wanted is a prepare with packages of one and of two layers.
func wanted() api.Msg { return prepare(1, 7, pack(2, "a", 5, 6), pack(1, "b", 7)) }

func TestWhatIsHandedInIsNotKept(t *testing.T) {
	n := New()
	m := roomy(wanted())
	given := memory(m.Packs)
	if e := Check(m); e != api.OK || memory(m.Packs) != given {
		t.Fatalf("Check = %d, %s, want %s", int(e), memory(m.Packs), given)
	}
	for range 3 {
		if e := n.Send(m); e != api.OK || memory(m.Packs) != given {
			t.Fatalf("Send = %d, %s, want %s", int(e), memory(m.Packs), given)
		}
	}
	if n.Deliver(0, 1, 1) != api.OK || n.Double(0, 1, 0) != api.OK || memory(m.Packs) != given {
		t.Fatal("refused, or changed")
	}
	spoil(m)
	w := wanted()
	isNet(t, n, row{{w, true}, {w, false}, {w, false}, {w, false}}, "what was handed in was changed")
	if m, ok := n.Take(1); !ok || !isMsg(m, w) {
		t.Errorf("%s, %v", named(m), ok)
	}
}

// What is refused is not changed either, nor kept.
func TestWhatIsRefusedIsNotKept(t *testing.T) {
	n := New()
	for range 64 {
		n.Send(commit(1, 7))
	}
	for _, m := range []api.Msg{wanted(), prepare(1, 0, ones(2)...), prepare(1, 7, ones(17)...), {Kind: 2, From: 1, Txn: 7, Packs: ones(2)}} {
		m = roomy(m)
		given := memory(m.Packs)
		if e := n.Send(m); e == api.OK || memory(m.Packs) != given {
			t.Errorf("%s: Send = %d, %s, want %s", named(m), int(e), memory(m.Packs), given)
		}
	}
}

// What lies behind a list's length is not looked at, whatever it is.
func TestBehindTheLength(t *testing.T) {
	l := append(ones(2), pack(0, "wrong", 5), pack(1, "p0", 5))
	x := fresh()
	x.must(t, send(prepare(1, 7, l[:2]...)), send(api.Msg{Kind: 3, To: 1, Txn: 7, Packs: l[:0]}), send(prepare(1, 7, l[:0]...)))
	l[0].Man.Layers = append(l[0].Man.Layers, l[0].Man.Layers[0])[:1] // a digest twice, but for the length
	x.must(t, send(prepare(1, 7, l[:2]...)))
	for _, m := range x.n.Link(0, 1) {
		for _, p := range m.Packs[:cap(m.Packs)][len(m.Packs):] {
			if !isPack(p, api.Pack{}) {
				t.Errorf("%v was handed out", p)
			}
		}
	}
}

// Packages told by Link, Box and Take, in new memory each time.
func TestWhatIsToldIsNew(t *testing.T) {
	w := wanted()
	x := run(t, send(w), send(commit(1, 8)), send(w), double(0, 1, 0), deliver(0, 1, 0), double(0, 1, 2), deliver(0, 1, 3), double(0, 1, 1), deliver(0, 1, 0), deliver(0, 1, 2))
	kept, keptBox := x.n.Link(0, 1), x.n.Box(1)
	for range 3 {
		spoilAll(x.n.Link(0, 1))
		isNet(t, x.n, x.row, "what Link told was changed")
		spoilAll(x.n.Box(1))
		isNet(t, x.n, x.row, "what Box told was changed")
	}
	other := x.n.Copy()
	spoilAll(other.Link(0, 1))
	spoilAll(other.Box(1))
	isNet(t, other, x.row, "what the copy told was changed")
	isNet(t, x.n, x.row, "what the copy told was changed")
	isThere := x.row
	for len(x.row.box(1)) > 0 {
		a := x.quick(t, take(1))
		m, ok := other.Take(1)
		if !ok || !isMsg(m, a.m) {
			t.Fatalf("%s, want %s", named(m), named(a.m))
		}
		spoil(m)
		isNet(t, other, x.row, "what Take of a copy told was changed")
		isNet(t, x.n, x.row, "what Take of a copy told was changed")
	}
	if !areMsgs(kept, isThere.msgs(isThere.under(0, 1))) || !areMsgs(keptBox, isThere.msgs(isThere.box(1))) {
		t.Errorf("what was told was changed: %s and %s", named(kept...), named(keptBox...))
	}
}

// A message that was taken shares nothing with its double, wherever that is.
func TestDoublesShareNothing(t *testing.T) {
	w := wanted()
	x := run(t, send(w), double(0, 1, 0), double(0, 1, 1), deliver(0, 1, 1), deliver(0, 1, 0))
	other := x.n.Copy()
	m, ok := x.n.Take(1)
	if !ok || !isMsg(m, w) {
		t.Fatalf("%s, %v", named(m), ok)
	}
	spoil(m)
	isNet(t, x.n, row{{w, false}, {w, true}}, "what was taken was changed")
	isNet(t, other, x.row, "what was taken was changed")
	if m, ok := x.n.Take(1); !ok || !isMsg(m, w) {
		t.Errorf("%s, %v", named(m), ok)
	}
}

// The lists of one answer share no memory with one another.
func TestListsOfOneAnswer(t *testing.T) {
	p := pack(1, "a", 5, 6)
	q := api.Pack{Owner: 2, Man: api.Manifest{Name: "b", Version: "1", Layers: p.Man.Layers}} // handed in, they share
	w := prepare(1, 7, p, q)
	x := run(t, send(w), send(w), double(0, 1, 0), double(0, 1, 1), send(w), double(0, 1, 4), deliver(0, 1, 0), deliver(0, 1, 1), deliver(0, 1, 2))
	for _, l := range [][]api.Msg{x.n.Link(0, 1), x.n.Box(1)} {
		for i := range l {
			first, second := l[i].Packs[0].Man.Layers, l[i].Packs[1]
			for k := range first[:cap(first)] {
				first[:cap(first)][k] = api.Ref{Size: 99}
			}
			if !isPack(second, q) {
				t.Errorf("message %d: %v", i, second)
			}
			spoil(l[i])
			if !areMsgs(l[i+1:], slices.Repeat([]api.Msg{w}, len(l)-i-1)) {
				t.Errorf("message %d: %s", i, named(l[i+1:]...))
			}
		}
	}
	isNet(t, x.n, x.row, "what was told was changed")
	if !isPack(p, pack(1, "a", 5, 6)) {
		t.Errorf("%v", p)
	}
}

// What was told is not changed by what is done later.
func TestWhatWasToldStays(t *testing.T) {
	x := busy(t)
	chance := rand.New(rand.NewSource(2))
	for i := range 300 {
		ahead, told := x.row, map[[2]int][]api.Msg{}
		boxes := map[int][]api.Msg{}
		for _, y := range rightEnds() {
			told[y], boxes[y[1]] = x.n.Link(y[0], y[1]), x.n.Box(y[1])
		}
		for k := range 3 {
			x.quick(t, anyDeed(chance, x.row, 20000+3*i+k))
		}
		for _, y := range slices.SortedFunc(maps.Keys(told), func(a, b [2]int) int { return 10*(a[0]-b[0]) + a[1] - b[1] }) {
			if !areMsgs(told[y], ahead.msgs(ahead.under(y[0], y[1]))) || !areMsgs(boxes[y[1]], ahead.msgs(ahead.box(y[1]))) {
				t.Fatalf("Link%v was changed: %s", y, named(told[y]...))
			}
		}
	}
}
