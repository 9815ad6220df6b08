package tree

import (
	"slices"
	"strings"

	"godown/api"
	"godown/blocks"
	"godown/props"
)

// Same tells whether the tenants are one; they need not be such as may be.
func Same(a api.Tenant, b api.Tenant) bool {
	return a.Name == b.Name && a.Quota == b.Quota && a.Next == b.Next &&
		slices.EqualFunc(a.Sets, b.Sets, sameSet) &&
		slices.Equal(a.Grants, b.Grants) &&
		slices.EqualFunc(a.Stages, b.Stages, sameStage) &&
		slices.Equal(a.Log, b.Log)
}

// Copy answers the tenant in memory of its own; it need not be one that may be.
func Copy(t api.Tenant) api.Tenant {
	t.Name = strings.Clone(t.Name)
	t.Sets = each(t.Sets, copiedSet)
	t.Grants = each(t.Grants, func(g api.Grant) api.Grant {
		return api.Grant{User: strings.Clone(g.User), Path: strings.Clone(g.Path), Perms: g.Perms}
	})
	t.Stages = each(t.Stages, copiedStage)
	t.Log = each(t.Log, func(e api.Entry) api.Entry {
		return api.Entry{User: strings.Clone(e.User), Kind: e.Kind, Path: strings.Clone(e.Path), Err: e.Err}
	})
	return t
}

func sameSet(a, b api.Set) bool {
	return a.Path == b.Path && a.Origin == b.Origin &&
		blocks.Same(a.Body, b.Body) &&
		slices.EqualFunc(a.Snaps, b.Snaps, sameSnap) &&
		props.Same(a.Own, b.Own)
}

func sameSnap(a, b api.Snap) bool {
	return a.Name == b.Name && a.Guid == b.Guid &&
		blocks.Same(a.Body, b.Body) &&
		slices.Equal(a.Tags, b.Tags) &&
		props.Same(a.Own, b.Own)
}

func sameStage(a, b api.Stage) bool {
	return a.Into == b.Into && sameRecord(a.Begin, b.Begin) &&
		blocks.Same(a.Body, b.Body) &&
		a.At == b.At && a.Next == b.Next && a.Sum == b.Sum && a.Done == b.Done
}

// sameRecord holds all fields against each other: of a tenant that may not be, a
// stage's Begin may be any record.
func sameRecord(a, b api.Record) bool {
	return a.Kind == b.Kind && a.Name == b.Name && a.From == b.From && a.Guid == b.Guid &&
		props.Same(a.Own, b.Own) &&
		a.Index == b.Index && a.Count == b.Count && a.Data == b.Data && a.Sum == b.Sum
}

// each answers what to makes of each element; of none nil.
func each[T any](l []T, to func(e T) T) []T {
	var out []T
	for _, e := range l {
		out = append(out, to(e))
	}
	return out
}

func copiedSet(s api.Set) api.Set {
	s.Path, s.Origin = strings.Clone(s.Path), strings.Clone(s.Origin)
	s.Body = each(s.Body, copiedBlock)
	s.Snaps = each(s.Snaps, copiedSnap)
	s.Own = each(s.Own, copiedProp)
	return s
}

func copiedSnap(n api.Snap) api.Snap {
	n.Name = strings.Clone(n.Name)
	n.Body = each(n.Body, copiedBlock)
	n.Tags = each(n.Tags, strings.Clone)
	n.Own = each(n.Own, copiedProp)
	return n
}

func copiedStage(s api.Stage) api.Stage {
	s.Into = strings.Clone(s.Into)
	s.Begin.Name, s.Begin.Data = strings.Clone(s.Begin.Name), strings.Clone(s.Begin.Data)
	s.Begin.Own = each(s.Begin.Own, copiedProp)
	s.Body = each(s.Body, copiedBlock)
	return s
}

func copiedBlock(b api.Block) api.Block {
	return api.Block{Index: b.Index, Data: strings.Clone(b.Data)}
}

func copiedProp(p api.Prop) api.Prop {
	return api.Prop{Name: strings.Clone(p.Name), Value: strings.Clone(p.Value)}
}
