package descpb

// The wire types of records: that of numbers, and that of strings and parts.
const (
	asNumber = 0
	asBytes  = 2
)

// The number of the records of a set.
const setFile = 1

// The numbers of the records of a file, and what the last of them says.
const (
	filePath    = 1
	filePackage = 2
	fileImport  = 3
	fileMsg     = 4
	fileEnum    = 5
	fileSvc     = 6
	filePublic  = 10
	fileSyntax  = 12

	syntax = "proto3"
)

// The numbers of the records of a message; entries of maps alone have options.
const (
	msgName     = 1
	msgField    = 2
	msgMsg      = 3
	msgEnum     = 4
	msgOptions  = 7
	msgOneof    = 8
	msgRange    = 9
	msgReserved = 10

	optionEntry = 7
	oneofName   = 1
)

// The numbers of the records of a field.
const (
	fieldName     = 1
	fieldNum      = 3
	fieldLabel    = 4
	fieldType     = 5
	fieldRef      = 6
	fieldOneof    = 9
	fieldJson     = 10
	fieldOptional = 17

	labelOne  = 1
	labelMany = 3
)

// The numbers of the records of an enum, of its values, and of ranges.
const (
	enumName     = 1
	enumValue    = 2
	enumRange    = 4
	enumReserved = 5

	valueName = 1
	valueNum  = 2

	rangeLo = 1
	rangeHi = 2
)

// The numbers of the records of a service, and of its methods.
const (
	svcName = 1
	svcRpc  = 2

	rpcName = 1
	rpcIn   = 2
	rpcOut  = 3
)
