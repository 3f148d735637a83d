package request

import (
	"toponym/api"
	"toponym/prims"
	"toponym/wire"
)

// mostAliases is the greatest second E of a Search, of which 0 alone is laid: aliases are none of this program's.
const mostAliases = 3

// read reads the element of a request, whether the request may be or not.
func read(e api.Element) (api.Request, bool) {
	fault := false
	message := inside(&fault, e).group(plainClass, groupNumber)
	r := api.Request{Id: message.whole(wholeNumber)}
	own := message.first()
	message.end()
	r.Kind = kindOf(own)
	readKind(&r, own, inside(&fault, own.Elements...))
	return r, !fault
}

// kindOf tells the Kind whose elements are of the sort that this one is; 0, if there is none.
func kindOf(e api.Element) int {
	kind := api.Bind
next:
	if prims.Is(e, kindClass, kinds[kind].number, kinds[kind].made) {
		return kind
	}
	if kind++; kind < len(kinds) {
		goto next
	}
	return 0
}

// readKind reads what a request has by its Kind: e is its element, l what is in that.
func readKind(r *api.Request, e api.Element, l *list) {
	switch r.Kind {
	case api.Unbind, api.Delete:
		r.Name = e.Contents
	case api.Abandon:
		r.Target = l.number(e)
	case api.Bind:
		readBind(r, l)
	case api.Search:
		readSearch(r, l)
	case api.Modify:
		r.Name, r.Changes = l.plain(), readChanges(l.group(plainClass, groupNumber))
	case api.Add:
		r.Name, r.Values = l.plain(), readValues(l.group(plainClass, groupNumber))
	case api.Rename:
		readRename(r, l)
	case api.Compare:
		r.Name, r.Pair = l.plain(), readPair(l.group(plainClass, groupNumber))
	case api.Foreign:
		r.Name = l.text(ownClass, foreignNumber)
		l.pass(ownClass, moreNumber)
	}
	l.end()
}

// readBind reads what a Bind has.
func readBind(r *api.Request, l *list) {
	r.Version, r.Name = l.whole(wholeNumber), l.plain()
	if !l.begins(ownClass, namedMethod, true) {
		r.Secret = l.text(ownClass, simpleMethod)
		return
	}
	in := l.group(ownClass, namedMethod)
	r.Method, r.Secret = namedMethod, in.plain()
	in.pass(plainClass, textNumber)
	in.end()
}

// readSearch reads what a Search has.
func readSearch(r *api.Request, l *list) {
	r.Name, r.Scope = l.plain(), l.whole(choiceNumber)
	l.must(within(l.whole(choiceNumber), 0, mostAliases))
	r.Most = l.whole(wholeNumber)
	l.must(l.whole(wholeNumber) >= 0)
	r.Types = l.truth()
	f, x := wire.Read(l.first())
	l.must(x == api.OK)
	r.Filter = f
	attrs := l.group(plainClass, groupNumber)
	for attrs.more() {
		r.Attrs = append(r.Attrs, attrs.word())
	}
}

// readRename reads what a Rename has.
func readRename(r *api.Request, l *list) {
	r.Name, r.Rdn, r.Keep = l.plain(), l.plain(), !l.truth()
	if l.more() {
		r.HasAbove, r.Above = true, l.text(ownClass, aboveNumber)
	}
}

// readChanges reads changes.
func readChanges(l *list) []api.Change {
	var out []api.Change
	for l.more() {
		in := l.group(plainClass, groupNumber)
		out = append(out, api.Change{Kind: in.whole(choiceNumber), Values: readNamed(in.group(plainClass, groupNumber))})
		in.end()
	}
	return out
}

// readValues reads names, each with its values.
func readValues(l *list) []api.Values {
	var out []api.Values
	for l.more() {
		out = append(out, readNamed(l.group(plainClass, groupNumber)))
	}
	return out
}

// readNamed reads a name with its values.
func readNamed(l *list) api.Values {
	v := api.Values{Name: l.word()}
	set := l.group(plainClass, setNumber)
	for set.more() {
		v.Values = append(v.Values, set.plain())
	}
	l.end()
	return v
}

// readPair reads a name and a value.
func readPair(l *list) api.Pair {
	p := api.Pair{Name: l.word(), Value: l.plain()}
	l.end()
	return p
}

// list is elements that are taken away one by one. Lists in one another share their fault: was something not as it must be?
type list struct {
	left  []api.Element
	fault *bool
}

// inside makes a list of elements.
func inside(fault *bool, l ...api.Element) *list { return &list{l, fault} }

// must says what must be so.
func (l *list) must(ok bool) {
	if !ok {
		*l.fault = true
	}
}

// more tells whether something is left.
func (l *list) more() bool { return len(l.left) > 0 }

// end says that nothing may be left.
func (l *list) end() { l.must(!l.more()) }

// begins tells whether the next element is of some sort.
func (l *list) begins(class, number int, made bool) bool {
	return l.more() && prims.Is(l.left[0], class, number, made)
}

// first takes an element of any sort away. If nothing is left, it answers one that is neither of a Kind nor a filter's.
func (l *list) first() api.Element {
	if !l.more() {
		return api.Element{}
	}
	e := l.left[0]
	l.left = l.left[1:]
	return e
}

// next takes an element of some sort away.
func (l *list) next(class, number int, made bool) api.Element {
	l.must(l.begins(class, number, made))
	return l.first()
}

// pass takes a text away that means nothing, if one is there.
func (l *list) pass(class, number int) {
	if l.begins(class, number, false) {
		l.first()
	}
}

// group takes a group away, as a list of what is in it.
func (l *list) group(class, number int) *list {
	return inside(l.fault, l.next(class, number, true).Elements...)
}

// text takes a text away.
func (l *list) text(class, number int) string { return l.next(class, number, false).Contents }

// plain takes a text away that has no number of its own.
func (l *list) plain() string { return l.text(plainClass, textNumber) }

// word takes a word away, in small letters.
func (l *list) word() string { return wire.Lower(l.plain()) }

// whole takes a whole number away.
func (l *list) whole(number int) int { return l.number(l.next(plainClass, number, false)) }

// number reads a whole number, whatever its sort.
func (l *list) number(e api.Element) int {
	n, x := prims.AsInt(e)
	l.must(x == api.OK)
	return n
}

// truth takes a truth away.
func (l *list) truth() bool {
	b, x := prims.AsBool(l.next(plainClass, truthNumber, false))
	l.must(x == api.OK)
	return b
}
