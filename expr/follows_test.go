package expr_test

import (
	"reflect"
	"slices"
	"testing"
	"unsafe"

	"bonsai/api"
	"bonsai/expr"
	"bonsai/tree"
)

// must tells what a call told; it may not be a no.
func must(t *testing.T) func(api.Tree, bool) api.Tree {
	return func(x api.Tree, is bool) api.Tree {
		t.Helper()
		if !is {
			t.Fatal("no; wanted: a tree")
		}
		return x
	}
}

// all tells all that the calls make of two trees.
func all(t *testing.T, x, y api.Tree) []api.Tree {
	ok := must(t)
	out := []api.Tree{
		ok(expr.Make(x)), ok(expr.Seq([]api.Tree{x, y})), ok(expr.Choice([]api.Tree{x, y})), ok(expr.Seq([]api.Tree{y})), ok(expr.Choice([]api.Tree{x})), ok(expr.Seq(nil)), ok(expr.Choice(nil)),
		ok(expr.Rep(x, 0, 1)), ok(expr.And(x)), ok(expr.Not(y)), ok(expr.Cap("n", x)),
	}
	out = append(out, slices.Concat(expr.Parts(x), expr.Ways(x))...)
	for _, tell := range []func(api.Tree) (api.Tree, bool){expr.Head, expr.Tail} {
		if z, is := tell(x); is {
			out = append(out, z)
		}
	}
	return out
}

// P5.4: what is made is right, normal and clean; made normal once more it is the same.
func TestWhatIsMade(t *testing.T) {
	r := numbers(11)
	l := samples()
	ok := must(t)
	for _, p := range l {
		for _, z := range all(t, p.strewn(&r), l[r.next(len(l))].strewn(&r)) {
			if !tree.Right(z) || !expr.Normal(z) || !sameTree(tree.Clean(z), z) {
				t.Fatalf("of %v: %v is right %v, normal %v", p, z, tree.Right(z), expr.Normal(z))
			}
			if again := ok(expr.Make(z)); !sameTree(again, z) {
				t.Errorf("of %v: %v, made normal once more: %v", p, z, again)
			}
		}
	}
}

// P5.1, P5.4: a normal one is made what it is, clean or not; another one is not.
func TestNormalStays(t *testing.T) {
	r := numbers(12)
	ok := must(t)
	for _, p := range samples() {
		for _, x := range p.arenas(&r) {
			if same := tree.Same(ok(expr.Make(x)), x); same != expr.Normal(x) {
				t.Errorf("%v: normal %v, made what it is: %v", p, expr.Normal(x), same)
			}
		}
	}
}

// P5.5: the Parts of a Seq of trees are those of each, one behind the other; the Ways of a Choice likewise.
func TestPartsOfSeqs(t *testing.T) {
	r := numbers(13)
	l := samples()
	ok := must(t)
	for range 1500 {
		var x, parts, ways []api.Tree
		for range r.next(5) {
			y := l[r.next(len(l))].strewn(&r)
			x, parts, ways = append(x, y), append(parts, expr.Parts(y)...), append(ways, expr.Ways(y)...)
		}
		if got := expr.Parts(ok(expr.Seq(x))); !sameTrees(got, parts) {
			t.Fatalf("Parts of the Seq of %v: %v", x, got)
		}
		if len(x) == 0 {
			continue
		}
		if got := expr.Ways(ok(expr.Choice(x))); !sameTrees(got, ways) {
			t.Fatalf("Ways of the Choice of %v: %v", x, got)
		}
	}
}

// P5.5: a tree made normal is the Seq of its Parts, and the Choice of its Ways. P5.6: and the Seq of its head and its tail.
func TestPutTogetherAgain(t *testing.T) {
	r := numbers(14)
	ok := must(t)
	headless := 0
	for _, p := range samples() {
		x := p.strewn(&r)
		made := ok(expr.Make(x))
		if got := ok(expr.Seq(expr.Parts(x))); !sameTree(got, made) {
			t.Errorf("the Seq of the Parts of %v: %v", p, got)
		}
		if got := ok(expr.Choice(expr.Ways(x))); !sameTree(got, made) {
			t.Errorf("the Choice of the Ways of %v: %v", p, got)
		}
		head, is := expr.Head(x)
		if !is {
			headless++
			if !tree.Same(made, tree.Empty()) {
				t.Errorf("%v has no head", p)
			}
			continue
		}
		if kind := tree.Root(head).Kind; kind == api.Seq || kind == api.Empty {
			t.Errorf("the head of %v: %v", p, head)
		}
		if got := ok(expr.Seq([]api.Tree{head, ok(expr.Tail(x))})); !sameTree(got, made) {
			t.Errorf("the Seq of head and tail of %v: %v", p, got)
		}
	}
	if headless == 0 {
		t.Error("no sample is without a head")
	}
}

// P5.7: Seq of three, and of more, is Seq of the first one and the Seq of the others, and the other way about; so is Choice, of some.
func TestBrackets(t *testing.T) {
	r := numbers(15)
	l := samples()
	ok := must(t)
	for range 1500 {
		x := []api.Tree{l[r.next(len(l))].strewn(&r)}
		for range 2 + r.next(3) {
			x = append(x, l[r.next(len(l))].strewn(&r))
		}
		last := len(x) - 1
		for _, of := range []func([]api.Tree) (api.Tree, bool){expr.Seq, expr.Choice} {
			want := ok(of(x))
			if got := ok(of([]api.Tree{x[0], ok(of(x[1:]))})); !sameTree(got, want) {
				t.Fatalf("the first one and the others of %v: %v, not %v", x, got, want)
			}
			if got := ok(of([]api.Tree{ok(of(x[:last])), x[last]})); !sameTree(got, want) {
				t.Fatalf("the others and the last one of %v: %v, not %v", x, got, want)
			}
		}
		none := ok(expr.Seq(nil))
		if got := ok(expr.Seq([]api.Tree{none, x[0], none})); !sameTree(got, ok(expr.Make(x[0]))) {
			t.Fatalf("%v with Seqs of none about it: %v", x[0], got)
		}
	}
}

// What stands in memory is gone over by reflection, whatever holds it.

// roomy tells a copy of a value whose lists have room behind their ends, in which something stands, and whose texts' bytes can be written to.
func roomy(v reflect.Value) reflect.Value {
	out := reflect.New(v.Type()).Elem()
	switch v.Kind() {
	case reflect.Slice:
		room := reflect.MakeSlice(v.Type(), v.Len()+2, v.Len()+2)
		for i := range v.Len() {
			room.Index(i).Set(roomy(v.Index(i)))
		}
		room.Index(v.Len()).Set(junk(v.Type().Elem()))
		return room.Slice(0, v.Len())
	case reflect.Struct:
		for i := range v.NumField() {
			out.Field(i).Set(roomy(v.Field(i)))
		}
	case reflect.Array:
		out.Set(v)
	case reflect.String:
		if v.Len() > 0 {
			b := []byte(v.String())
			out.SetString(unsafe.String(&b[0], len(b)))
		}
	default:
		out.Set(v)
	}
	return out
}

func junk(of reflect.Type) reflect.Value {
	switch of {
	case reflect.TypeFor[int]():
		return reflect.ValueOf(7)
	case reflect.TypeFor[api.Node]():
		return reflect.ValueOf(api.Node{Kind: 8, Text: "x", Kids: []int{0}})
	}
	return reflect.ValueOf(tree.Text("x"))
}

// copied tells a copy of a value, with all that stands behind the ends of its lists.
func copied(v reflect.Value) reflect.Value {
	out := reflect.New(v.Type()).Elem()
	out.Set(v)
	switch v.Kind() {
	case reflect.Slice:
		if v.IsNil() {
			break
		}
		room := reflect.MakeSlice(v.Type(), v.Cap(), v.Cap())
		for i := range v.Cap() {
			room.Index(i).Set(copied(v.Slice(0, v.Cap()).Index(i)))
		}
		out.Set(room)
	case reflect.Struct:
		for i := range v.NumField() {
			out.Field(i).Set(copied(v.Field(i)))
		}
	case reflect.String:
		out.SetString(string([]byte(v.String())))
	}
	return out
}

// span is some memory, that a list or a text has.
type span struct {
	from, to uintptr
	text     bool
}

func spans(v reflect.Value) []span {
	var out []span
	switch v.Kind() {
	case reflect.Slice:
		if n := uintptr(v.Cap()) * v.Type().Elem().Size(); n > 0 {
			out = append(out, span{v.Pointer(), v.Pointer() + n, false})
		}
		for i := range v.Len() {
			out = append(out, spans(v.Index(i))...)
		}
	case reflect.Struct:
		for i := range v.NumField() {
			out = append(out, spans(v.Field(i))...)
		}
	case reflect.String:
		if v.Len() > 0 {
			at := uintptr(unsafe.Pointer(unsafe.StringData(v.String())))
			out = append(out, span{at, at + uintptr(v.Len()), true})
		}
	}
	return out
}

// shared tells whether two of these have memory in common; two texts may.
func shared(l []span) bool {
	slices.SortFunc(l, func(a, b span) int {
		if a.from != b.from {
			return int(int64(a.from) - int64(b.from))
		}
		return int(int64(a.to) - int64(b.to))
	})
	for i := range len(l) - 1 {
		if l[i+1].from < l[i].to && !(l[i].text && l[i+1].text) {
			return true
		}
	}
	return false
}

// asked is what all calls tell of a list of trees.
type asked struct {
	Trees [][]api.Tree
	Is    []bool
}

func ask(l []api.Tree) asked {
	var out asked
	tell := func(x api.Tree, is bool) {
		out.Trees, out.Is = append(out.Trees, []api.Tree{x}), append(out.Is, is)
	}
	tell(expr.Seq(l))
	tell(expr.Choice(l))
	for i, x := range l {
		tell(expr.Seq(l[i : i+1]))
		tell(expr.Choice(l[i : i+1]))
		tell(expr.Make(x))
		tell(expr.Rep(x, 2, 3))
		tell(expr.And(x))
		tell(expr.Not(x))
		tell(expr.Cap("n", x))
		tell(expr.Head(x))
		tell(expr.Tail(x))
		out.Trees = append(out.Trees, expr.Parts(x), expr.Ways(x))
		out.Is = append(out.Is, expr.Normal(x))
	}
	return out
}

// lists are lists of trees, some of which are not right.
func lists() [][]api.Tree {
	r := numbers(16)
	l := samples()
	var out [][]api.Tree
	for _, p := range l {
		x := []api.Tree{p.strewn(&r)}
		for range r.next(3) {
			x = append(x, l[r.next(len(l))].clean())
		}
		out = append(out, x)
	}
	for _, c := range wrongs() {
		out = append(out, []api.Tree{c.tree}, []api.Tree{read("(a(bc))").clean(), c.tree})
	}
	return append(out, nil)
}

// R1: what is handed in stays as it was, also behind the lists' ends, and the same is told each time.
func TestHandedInStays(t *testing.T) {
	for _, l := range lists() {
		held := roomy(reflect.ValueOf(l)).Interface().([]api.Tree)
		before := copied(reflect.ValueOf(held)).Interface()
		first := ask(held)
		if !reflect.DeepEqual(copied(reflect.ValueOf(held)).Interface(), before) {
			t.Errorf("%v was changed", l)
		}
		if !reflect.DeepEqual(ask(held), first) || !reflect.DeepEqual(ask(l), first) {
			t.Errorf("of %v another thing is told the second time, or without room behind", l)
		}
	}
}

// R1: what is told shares no memory with what is handed in, nor with what is told beside it, before it, or behind it; nor do two lists of one answer.
func TestSharesNoMemory(t *testing.T) {
	for _, l := range lists() {
		held := roomy(reflect.ValueOf(l)).Interface().([]api.Tree)
		in := spans(reflect.ValueOf(held))
		first, second := ask(held), ask(held)
		if out := slices.Concat(spans(reflect.ValueOf(first)), spans(reflect.ValueOf(second))); shared(out) {
			t.Fatalf("what is told of %v shares memory", l)
		}
		// What is handed in counts as lists here: so its texts may not be had in common either.
		for i := range in {
			in[i].text = false
		}
		for _, a := range []asked{first, second} {
			if shared(slices.Concat(in, spans(reflect.ValueOf(a)))) {
				t.Fatalf("what is told of %v shares memory with it", l)
			}
		}
		want := copied(reflect.ValueOf(second)).Interface()
		for i := range held {
			for j := range held[i].Nodes {
				held[i].Nodes[j] = api.Node{Kind: 77}
			}
			held[i] = api.Tree{}
		}
		if !reflect.DeepEqual(first, second) || !reflect.DeepEqual(copied(reflect.ValueOf(second)).Interface(), want) {
			t.Fatalf("what is told of %v is seen to change with it", l)
		}
	}
	name := []byte("abc")
	x, _ := expr.Cap(unsafe.String(&name[0], len(name)), tree.Empty())
	name[1] = '?'
	if x.Nodes[x.Root].Text != "abc" {
		t.Errorf("a Cap's name is seen to change: %v", x)
	}
}

// R1: what is written to an answer is not to be seen in a later one, of leaves too.
func TestAnswersStandApart(t *testing.T) {
	for _, l := range [][]api.Tree{nil, {tree.Empty()}, {tree.Text("a"), tree.Empty()}, {read("(a[b-])").clean()}} {
		want := ask(l)
		got := ask(l)
		for _, trees := range got.Trees {
			for i := range trees {
				for j := range trees[i].Nodes {
					trees[i].Nodes[j] = api.Node{Kind: 77}
				}
				trees[i].Root = -1
			}
		}
		if again := ask(l); !reflect.DeepEqual(again, want) {
			t.Errorf("of %v another thing is told, once an answer is written to", l)
		}
	}
}
