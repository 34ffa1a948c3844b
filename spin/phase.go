package spin

import "afterglow/api"

// phase is what one who wants a lock asks for, and where it is once that came to something.
type phase struct {
	asks func(s api.Spin) api.Access
	then func(s api.Spin, g api.Got) api.Spin
}

// phases are the phases by their numbers; those that have no step ask for nothing.
func phases() [api.SpDone + 1]phase {
	return [...]phase{
		api.SpAsk:   {asks: loadNext, then: asked},
		api.SpTake:  {asks: swapNext, then: tried},
		api.SpWait:  {asks: loadOwner, then: looked},
		api.SpHeld:  {},
		api.SpLeave: {asks: storeOwner, then: left},
		api.SpDone:  {},
	}
}

func loadNext(s api.Spin) api.Access {
	return api.Access{Kind: api.AcLoad, At: s.At + next}
}

func asked(s api.Spin, g api.Got) api.Spin {
	s.Phase, s.Ticket = api.SpTake, g.Value
	return s
}

func swapNext(s api.Spin) api.Access {
	return api.Access{Kind: api.AcSwap, At: s.At + next, Old: s.Ticket, New: s.Ticket + 1}
}

func tried(s api.Spin, g api.Got) api.Spin {
	if !g.Done {
		return Ask(s.At) // somebody else took that ticket
	}
	s.Phase = api.SpWait
	return s
}

func loadOwner(s api.Spin) api.Access {
	return api.Access{Kind: api.AcLoad, At: s.At + owner}
}

func looked(s api.Spin, g api.Got) api.Spin {
	if g.Value == s.Ticket {
		s.Phase = api.SpHeld
	}
	return s
}

func storeOwner(s api.Spin) api.Access {
	return api.Access{Kind: api.AcStore, At: s.At + owner, New: s.Ticket + 1}
}

func left(s api.Spin, _ api.Got) api.Spin {
	s.Phase = api.SpDone
	return s
}

// Need: P5.2.
func Need(s api.Spin) (api.Access, bool) {
	if Check(s) != api.OK {
		return api.Access{}, false
	}
	asks := phases()[s.Phase].asks
	if asks == nil {
		return api.Access{}, false
	}
	return asks(s), true
}

// Take: P5.2. A swap alone tells something if it is not done; any other access is then made again.
func Take(s api.Spin, g api.Got) (api.Spin, api.Errno) {
	if errno := Check(s); errno != api.OK {
		return api.Spin{}, errno
	}
	a, has := Need(s)
	if !has {
		return api.Spin{}, api.ErrArg
	}
	if !g.Done && a.Kind != api.AcSwap {
		return s, api.OK
	}
	return phases()[s.Phase].then(s, g), api.OK
}
