package mould

import "math/bits"

// pods is a set of pods.
type pods int

// only is the set of one pod.
func only(pod int) pods { return 1 << pod }

func (p pods) has(pod int) bool { return p&only(pod) != 0 }

// meets reports whether two sets have a pod in common.
func (p pods) meets(other pods) bool { return p&other != 0 }

func (p pods) many() int { return bits.OnesCount(uint(p)) }

// union is what is in any of some sets.
func union[S ~int](sets ...S) S {
	var all S
	for _, s := range sets {
		all |= s
	}
	return all
}
