// Package paper is layer 42: certificates of recycling: see shared/doc/42-paper.md.
package paper

import "kerbside/api"

// Owners is described in shared/doc/42-paper.md.
const Owners = 1000

// Right is described in shared/doc/42-paper.md.
func Right(p api.Papers) bool { return false }

// Certain is described in shared/doc/42-paper.md.
func Certain(e api.Evidence, b api.Batch) (int, api.Errno) { return 0, 0 }

// Issue is described in shared/doc/42-paper.md.
func Issue(p api.Papers, e api.Evidence, b api.Batch, grams, owner int) (api.Papers, api.Errno) {
	return api.Papers{}, 0
}

// Split is described in shared/doc/42-paper.md.
func Split(p api.Papers, by, i, grams int) (api.Papers, api.Errno) { return api.Papers{}, 0 }

// Join is described in shared/doc/42-paper.md.
func Join(p api.Papers, by, i, j int) (api.Papers, api.Errno) { return api.Papers{}, 0 }

// Give is described in shared/doc/42-paper.md.
func Give(p api.Papers, by, i, to int) (api.Papers, api.Errno) { return api.Papers{}, 0 }

// Retire is described in shared/doc/42-paper.md.
func Retire(p api.Papers, by, i int) (api.Papers, api.Errno) { return api.Papers{}, 0 }

// Total is described in shared/doc/42-paper.md.
func Total(p api.Papers, batch int) int { return 0 }

// Standing is described in shared/doc/42-paper.md.
func Standing(p api.Papers, certain []int) []bool { return nil }
