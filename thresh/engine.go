package thresh

import (
	"thresh/api"
	"thresh/program"
)

// read makes a program of a text. One that is wrong is given up wherever that is found; here it is caught.
func read(text string) (p *program.Program, fault api.Fault) {
	defer func() {
		given := recover()
		if given == nil {
			return
		}
		f, told := given.(api.Fault)
		if !told {
			// No fault of the text, but one of the program: to hide it would be to answer what is not so.
			panic(given)
		}
		fault = f
	}()
	return program.Read(text), api.Fault{}
}
