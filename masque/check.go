package masque

import "masque/api"

// checkTenants answers the error of the first tenant at fault, not the first
// kind of error: a double ahead of a wrong tenant is told as a double.
func checkTenants(tenants []api.Tenant) api.Errno {
	if len(tenants) > api.MaxTenants {
		return api.ErrMany
	}
	for i, t := range tenants {
		if !isTenant(t) {
			return api.ErrTenant
		}
		if isTwice(tenants[:i], t) {
			return api.ErrTwice
		}
	}
	return api.OK
}

func isTenant(t api.Tenant) bool {
	return t.Tag >= 1 && t.Tag <= api.MaxTag &&
		t.Outer >= 0 && t.Outer <= api.MaxAddr &&
		isBlock(t.Low, t.High)
}

// isBlock asks for the size last: only between 0 and MaxPort is the difference
// sure not to wrap round.
func isBlock(low, high int) bool {
	return 0 <= low && low <= high && high <= api.MaxPort && high-low < api.MaxBlock
}

func isTwice(ahead []api.Tenant, t api.Tenant) bool {
	for _, a := range ahead {
		if a.Tag == t.Tag || a.Outer == t.Outer {
			return true
		}
	}
	return false
}
