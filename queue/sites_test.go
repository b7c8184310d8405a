package queue_test

import (
	"slices"
	"testing"

	"hanse/api"
)

// wide answers an ask at a federation of so many clusters, all great enough.
func wide(clusters int, pact bool, sites ...int) ask {
	return ask{alike(clusters, 4+4i), 0, nil, api.Job{Need: 3 + 2i, Wall: 10, Run: 8, Sites: sites, Pact: pact}}
}

// P12.1: 1 to MaxSites sites, of a pact at least 2.
func TestAdmitSites(t *testing.T) {
	for many := range 20 {
		for _, first := range []int{0, 1, 64 - many} {
			one, pact := api.OK, api.OK
			if many == 0 || many > 8 {
				one, pact = api.ErrSites, api.ErrSites
			}
			if many == 1 {
				pact = api.ErrSites
			}
			answers(t, wide(64, false, upTo(first, many)...), one)
			answers(t, wide(64, true, upTo(first, many)...), pact)
		}
	}
	for _, pact := range []bool{false, true} {
		answers(t, wide(64, pact, []int{}...), api.ErrSites)
		answers(t, wide(64, pact, upTo(0, 64)...), api.ErrSites)
		answers(t, wide(9, pact, upTo(0, 9)...), api.ErrSites)
		answers(t, wide(8, pact, upTo(0, 8)...), api.OK)
		answers(t, wide(64, pact, 0, 63), api.OK)
		answers(t, wide(64, pact, 0, 9, 18, 27, 36, 45, 54, 63), api.OK)
		answers(t, wide(64, pact, 0, 9, 18, 27, 36, 45, 54, 60, 63), api.ErrSites)
	}
}

// P12.1: each site alone, and each two of them.
func TestAdmitEachSite(t *testing.T) {
	for _, clusters := range []int{1, 2, 9, 64} {
		for one := -2; one < clusters+3; one++ {
			asModelled(t, wide(clusters, false, one))
			asModelled(t, wide(clusters, true, one))
			for next := -2; next < clusters+3; next++ {
				asModelled(t, wide(clusters, false, one, next))
				asModelled(t, wide(clusters, true, one, next))
			}
		}
	}
}

// P12.1: all short lists of sites.
func TestAdmitAllShortSites(t *testing.T) {
	var walk func(sites []int)
	walk = func(sites []int) {
		for _, clusters := range []int{1, 3, 4} {
			asModelled(t, wide(clusters, false, sites...))
			asModelled(t, wide(clusters, true, sites...))
		}
		if len(sites) == 5 {
			return
		}
		for site := -1; site < 5; site++ {
			walk(append(slices.Clone(sites), site))
		}
	}
	walk(nil)
}

// P12.1: sites rise, and are clusters, at each place of them.
func TestAdmitOneWrongSite(t *testing.T) {
	for many := 2; many <= 8; many++ {
		for _, first := range []int{0, 10, 64 - many} {
			right := upTo(first, many)
			for at := range right {
				for _, wrong := range []int{-1, -2, leastInt, 64, 65, 100, mostInt, right[(at+1)%many], right[(at+many-1)%many]} {
					l := slices.Clone(right)
					l[at] = wrong
					answers(t, wide(64, false, l...), api.ErrSites)
					answers(t, wide(64, true, l...), api.ErrSites)
				}
				answers(t, wide(first+many-1, false, right...), api.ErrSites)
			}
			for at := range right[1:] {
				l := slices.Clone(right)
				l[at], l[at+1] = l[at+1], l[at]
				answers(t, wide(64, false, l...), api.ErrSites)
				answers(t, wide(64, true, l...), api.ErrSites)
			}
			slices.Reverse(right)
			answers(t, wide(64, false, right...), api.ErrSites)
		}
	}
}

// P12.1: each of the sites is great enough, in both parts.
func TestAdmitFit(t *testing.T) {
	for many := 1; many <= 8; many++ {
		for at := range many {
			for _, x := range []struct {
				cap  complex128
				want api.Errno
			}{
				{3 + 2i, api.OK}, {4 + 2i, api.OK}, {3 + 3i, api.OK}, {1048576 + 1048576i, api.OK},
				{2 + 2i, api.ErrFit}, {3 + 1i, api.ErrFit}, {2 + 1i, api.ErrFit}, {2 + 9i, api.ErrFit}, {9 + 1i, api.ErrFit}, {2 + 1048576i, api.ErrFit}, {1048576 + 1i, api.ErrFit}, {0, api.ErrFit}, {9, api.ErrFit}, {9i, api.ErrFit},
			} {
				a := wide(12, many > 1, upTo(2, many)...)
				a.caps[2+at] = x.cap
				answers(t, a, x.want)
				a.j.Pact = false
				answers(t, a, x.want)
				a.me = 2 + at
				answers(t, a, x.want)
			}
		}
	}
}

// P12.1: a need just as great as each of the sites.
func TestAdmitFitsJust(t *testing.T) {
	for _, need := range []complex128{1, 1 + 1i, 7 + 3i, 1048576, 1 + 1048576i, 1048576 + 1048576i} {
		for many := 1; many <= 8; many++ {
			a := ask{alike(many, need), 0, nil, api.Job{Need: need, Wall: 1, Run: 1, Sites: upTo(0, many)}}
			answers(t, a, api.OK)
			for at := range many {
				for _, less := range []complex128{1, 1i} {
					a.caps = alike(many, need)
					a.caps[at] -= less
					answers(t, a, api.ErrFit)
				}
			}
		}
	}
}

// P12.1: nothing fits into what is no amount.
func TestAdmitCapIsNoAmount(t *testing.T) {
	for _, p := range noParts() {
		for _, x := range []complex128{complex(p, 9), complex(9, p), complex(p, p), complex(p, 0)} {
			for many := 1; many <= 8; many++ {
				for at := range many {
					a := wide(12, many > 1, upTo(2, many)...)
					a.caps[2+at] = x
					answers(t, a, api.ErrFit)
					a.me = 2 + at
					answers(t, a, api.ErrFit)
					a.j.Need = 1
					answers(t, a, api.ErrFit)
				}
			}
		}
	}
}

// P12.1: what a cluster has that is no site makes no difference, the one that is asked neither.
func TestAdmitOthersCaps(t *testing.T) {
	for _, p := range append(noParts(), 0, 1, 1048576) {
		for _, x := range []complex128{complex(p, 9), complex(9, p), complex(p, 0), complex(0, p)} {
			for me := range 8 {
				a := wide(8, true, 1, 3, 6)
				for _, other := range []int{0, 2, 4, 5, 7} {
					a.caps[other] = x
				}
				a.me = me
				answers(t, a, api.OK)
				a.caps[3] = 2 + 2i
				answers(t, a, api.ErrFit)
			}
		}
	}
}
