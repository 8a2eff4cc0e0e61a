package clerk

import (
	"rostellum/api"
	"rostellum/mark"
	"rostellum/seal"
)

func isIn(n, low, high int) bool { return low <= n && n <= high }

func isSetup(s api.ValleySetup) bool {
	if !isIn(s.Day, 0, api.MaxDay) || !isIn(len(s.Register.Growers), 1, api.ValleyGrowers) {
		return false
	}
	return mark.Check(s.Register) == api.OK && areRoots(s.Roots)
}

// areRoots reports whether seal takes a list as roots: there is nothing else here with which it could find fault.
func areRoots(l []string) bool {
	_, e := seal.Holders(l, nil, "any", 0)
	return e == api.OK
}
