package request

import (
	"toponym/api"
	"toponym/prims"
	"toponym/wire"
)

// The classes: of elements that are what BER says their numbers are, of what tells a request's Kind, and of what has a number of its own in that.
const (
	plainClass = 0
	kindClass  = 1
	ownClass   = 2
)

// The numbers that BER gives: those of a truth, of a whole number, and so on.
const (
	truthNumber  = 1
	wholeNumber  = 2
	textNumber   = 4
	choiceNumber = 10
	groupNumber  = 16
	setNumber    = 17
)

// The numbers of what has its own; the Methods of a Bind are theirs themselves.
const (
	aboveNumber   = 0
	foreignNumber = 0
	moreNumber    = 1 // of what may stand behind the name of a Foreign
)

// kinds tells of which number the element of each Kind of a request is, and whether it is made of others.
var kinds = [...]struct {
	number int
	made   bool
}{
	api.Bind:    {0, true},
	api.Unbind:  {2, false},
	api.Search:  {3, true},
	api.Modify:  {6, true},
	api.Add:     {8, true},
	api.Delete:  {10, false},
	api.Rename:  {12, true},
	api.Compare: {14, true},
	api.Abandon: {16, false},
	api.Foreign: {23, true},
}

// lay makes the element of a request that may be.
func lay(r api.Request) api.Element {
	return groups(plainClass, groupNumber)(wholes(plainClass, wholeNumber)(r.Id), layKind(r))
}

// layKind makes the element of what a request has by its Kind.
func layKind(r api.Request) api.Element {
	number := kinds[r.Kind].number
	made, plain := groups(kindClass, number), texts(plainClass, textNumber)
	switch r.Kind {
	case api.Bind:
		return made(wholes(plainClass, wholeNumber)(r.Version), plain(r.Name), layMethod(r))
	case api.Search:
		return made(laySearch(r)...)
	case api.Modify:
		return made(plain(r.Name), layChanges(r.Changes...))
	case api.Add:
		return made(plain(r.Name), layValues(r.Values...))
	case api.Rename:
		return made(layRename(r)...)
	case api.Compare:
		return made(plain(r.Name), groups(plainClass, groupNumber)(plain(r.Pair.Name), plain(r.Pair.Value)))
	case api.Abandon:
		return wholes(kindClass, number)(r.Target)
	case api.Foreign:
		return made(texts(ownClass, foreignNumber)(r.Name))
	}
	// A Delete is its Name; an Unbind, which has none, is empty.
	return texts(kindClass, number)(r.Name)
}

// layMethod makes the element of how a Bind tells who it is.
func layMethod(r api.Request) api.Element {
	if r.Method == namedMethod {
		return groups(ownClass, namedMethod)(texts(plainClass, textNumber)(r.Secret))
	}
	return texts(ownClass, simpleMethod)(r.Secret)
}

// laySearch makes the elements of what a Search has.
func laySearch(r api.Request) []api.Element {
	whole, choice := wholes(plainClass, wholeNumber), wholes(plainClass, choiceNumber)
	// That the filter may be was asked.
	f, _ := wire.Lay(r.Filter)
	return []api.Element{
		texts(plainClass, textNumber)(r.Name), choice(r.Scope), choice(0), whole(r.Most), whole(0), truth(r.Types), f,
		layTexts(groupNumber, r.Attrs...),
	}
}

// layRename makes the elements of what a Rename has.
func layRename(r api.Request) []api.Element {
	plain := texts(plainClass, textNumber)
	l := []api.Element{plain(r.Name), plain(r.Rdn), truth(!r.Keep)}
	if r.HasAbove {
		l = append(l, texts(ownClass, aboveNumber)(r.Above))
	}
	return l
}

// layChanges makes the element of changes.
func layChanges(changes ...api.Change) api.Element {
	group := groups(plainClass, groupNumber)
	var l []api.Element
	for _, c := range changes {
		l = append(l, group(wholes(plainClass, choiceNumber)(c.Kind), layNamed(c.Values)))
	}
	return group(l...)
}

// layValues makes the element of names, each with its values.
func layValues(values ...api.Values) api.Element {
	var l []api.Element
	for _, v := range values {
		l = append(l, layNamed(v))
	}
	return groups(plainClass, groupNumber)(l...)
}

// layNamed makes the element of a name with its values.
func layNamed(v api.Values) api.Element {
	return groups(plainClass, groupNumber)(texts(plainClass, textNumber)(v.Name), layTexts(setNumber, v.Values...))
}

// layTexts makes a group of texts.
func layTexts(number int, l ...string) api.Element {
	var out []api.Element
	for _, s := range l {
		out = append(out, texts(plainClass, textNumber)(s))
	}
	return groups(plainClass, number)(out...)
}

// wholes answers what makes the whole numbers of a class and a number. Here, as in texts, groups and truth, prims refuses nothing of a request that may be.
func wholes(class, number int) func(n int) api.Element {
	return func(n int) api.Element {
		e, _ := prims.Int(class, number, n)
		return e
	}
}

// texts answers what makes the texts of a class and a number.
func texts(class, number int) func(s string) api.Element {
	return func(s string) api.Element {
		e, _ := prims.Text(class, number, s)
		return e
	}
}

// groups answers what makes the groups of a class and a number.
func groups(class, number int) func(l ...api.Element) api.Element {
	return func(l ...api.Element) api.Element {
		e, _ := prims.Group(class, number, l...)
		return e
	}
}

// truth makes a truth.
func truth(b bool) api.Element {
	e, _ := prims.Bool(plainClass, truthNumber, b)
	return e
}
