package ternary

import (
	"retorter/api"
	"retorter/signals"
)

// logic tells how No, Yes and Any are reckoned with.
func logic() signals.Logic[int] {
	return signals.Logic[int]{Not: turned, And: both}
}

// turned tells what x is when it is turned over.
func turned(x int) int {
	switch x {
	case api.No:
		return api.Yes
	case api.Yes:
		return api.No
	}
	return x
}

// both tells what x and y are together: one that is No is enough, whatever the other is.
func both(x, y int) int {
	switch {
	case x == api.No || y == api.No:
		return api.No
	case x == api.Yes && y == api.Yes:
		return api.Yes
	}
	return api.Any
}

// all tells what those of a list are together: none are Yes.
func all(list []int) int {
	together := api.Yes
	for _, x := range list {
		together = both(together, x)
	}
	return together
}

// ofThree tells whether each one of a list is No, Yes or Any.
func ofThree(list []int) bool {
	for _, x := range list {
		if x != api.No && x != api.Yes && x != api.Any {
			return false
		}
	}
	return true
}
