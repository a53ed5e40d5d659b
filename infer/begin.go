package infer

import "mlcore/api"

// beginning has the names that are there from the beginning.
func beginning() scope {
	s := scope{there: map[key]thing{}}
	for _, t := range firstTypes() {
		s.declareType(t.Name, family{params: len(t.Args), typ: t})
	}
	for _, f := range firstFunctions() {
		s.declareValue(f.name, value{typ: arrow(f.from, f.to)})
	}
	for _, name := range []string{"true", "false"} {
		s.declareValue(name, value{typ: boolType(), by: byData})
	}
	for _, name := range []string{"Match", "Bind", "Overflow", "Div", "Bounds", "Size"} {
		s.declareValue(name, value{typ: exnType(), by: byException})
	}
	return s
}

func firstTypes() []api.Type {
	a := anything(0, 0)
	return []api.Type{
		intType(), stringType(), boolType(), unitType(), exnType(),
		listType(a), refType(a), arrayType(a),
	}
}

// function is a function that is there from the beginning.
type function struct {
	name     string
	from, to api.Type
}

func firstFunctions() []function {
	a, number, text := anything(0, 0), intType(), stringType()
	return []function{
		{"not", boolType(), boolType()},
		{"print", text, unitType()},
		{"str", number, text},
		{"size", text, number},
		{"sub", tupleType(text, number), number},
		{"part", tupleType(text, number, number), text},
		{"chr", number, text},
		{"ref", a, refType(a)},
		{"array", tupleType(number, a), arrayType(a)},
		{"length", arrayType(a), number},
		{"at", tupleType(arrayType(a), number), a},
		{"put", tupleType(arrayType(a), number, a), unitType()},
	}
}
