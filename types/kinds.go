package types

import "trestle/api"

// visitor is led through what a type has, in the order of its text.
type visitor interface {
	bounds(t *api.Ty)
	brand(t *api.Ty)
	opaque(t *api.Ty)
	super(t *api.Ty)
	part(t *api.Ty)
	fields(t *api.Ty)
	methods(t *api.Ty)
	overs(t *api.Ty)
}

// table has for each Kind the function that leads a visitor through what its types have.
type table [api.KdOpaque + 1]func(visitor, *api.Ty)

func newTable() table {
	nothing := func(visitor, *api.Ty) {}
	onePart := func(v visitor, t *api.Ty) {
		v.brand(t)
		v.part(t)
	}
	return table{
		api.KdInteger:   nothing,
		api.KdBoolean:   nothing,
		api.KdRange:     visitor.bounds,
		api.KdAny:       nothing,
		api.KdNull:      nothing,
		api.KdRoot:      nothing,
		api.KdMutex:     nothing,
		api.KdCondition: nothing,
		api.KdRef:       onePart,
		api.KdArray:     onePart,
		api.KdRecord: func(v visitor, t *api.Ty) {
			v.brand(t)
			v.fields(t)
		},
		api.KdObject: func(v visitor, t *api.Ty) {
			v.brand(t)
			v.super(t)
			v.fields(t)
			v.methods(t)
			v.overs(t)
		},
		api.KdOpaque: func(v visitor, t *api.Ty) {
			v.opaque(t)
			v.super(t)
		},
	}
}

func isKind(n int) bool { return int(api.KdInteger) <= n && n <= int(api.KdOpaque) }

func hasSuper(kind uint8) bool { return kind == api.KdObject || kind == api.KdOpaque }
