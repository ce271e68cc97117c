package thresh

import (
	"thresh/api"
	"thresh/program"
)

// read makes a program of a text. One that is wrong is given up wherever that is found; here it is caught.
func read(text string) (p *program.Program, fault api.Fault) {
	defer func() {
		given := recover()
		if given == nil {
			return
		}
		f, told := given.(api.Fault)
		if !told {
			// No fault of the text, but one of the program: to hide it would be to answer what is not so.
			panic(given)
		}
		fault = f
	}()
	return program.Read(text), api.Fault{}
}

// place tells where a relation stands of which a list is to be a tuple.
func (e *Engine) place(rel string, tuple []int) (int, api.Errno) {
	place, there := e.base.Place(rel)
	switch {
	case !there:
		return 0, api.ErrName
	case len(tuple) != e.base.Columns(place):
		return 0, api.ErrArity
	case !e.base.Fits(place, tuple):
		return 0, api.ErrRange
	}
	return place, api.OK
}
