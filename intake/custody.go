package intake

import (
	"slices"

	"paperchase/api"
	"paperchase/shape"
)

// CheckMoves validates a custody log.
func CheckMoves(l []api.Move) api.Errno {
	if len(l) > api.MaxMoves {
		return api.ErrLarge
	}
	holders := map[string]string{}
	for i, m := range l {
		switch {
		case m.No != i+1 || !shape.Moment(m.At):
			return api.ErrArg
		case i > 0 && m.At < l[i-1].At:
			return api.ErrOrder
		case !shape.Key(m.Thing) || m.From != "" && !shape.Key(m.From) || !shape.Key(m.To):
			return api.ErrName
		case m.From == m.To:
			return api.ErrLoop
		case m.From != holders[m.Thing]:
			return api.ErrState
		}
		holders[m.Thing] = m.To
	}
	return api.OK
}

// holdersAt returns who has each thing at a moment. Errors: CheckMoves'; ErrName if name is not a key; ErrArg.
func holdersAt(l []api.Move, name string, at int) (map[string]string, api.Errno) {
	if e := CheckMoves(l); e != api.OK {
		return nil, e
	}
	if !shape.Key(name) {
		return nil, api.ErrName
	}
	if !shape.Moment(at) {
		return nil, api.ErrArg
	}
	holders := map[string]string{}
	for _, m := range l {
		if m.At <= at {
			holders[m.Thing] = m.To
		}
	}
	return holders, api.OK
}

// Holder returns who has a thing at a moment.
func Holder(l []api.Move, thing string, at int) (string, api.Errno) {
	holders, e := holdersAt(l, thing, at)
	if e != api.OK {
		return "", e
	}
	who, ok := holders[thing]
	if !ok {
		return "", api.ErrNone
	}
	return who, api.OK
}

// Holding returns what a person has at a moment.
func Holding(l []api.Move, who string, at int) ([]string, api.Errno) {
	holders, e := holdersAt(l, who, at)
	if e != api.OK {
		return nil, e
	}
	var things []string
	for thing, holder := range holders {
		if holder == who {
			things = append(things, thing)
		}
	}
	slices.Sort(things)
	return things, api.OK
}
