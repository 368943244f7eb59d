package schema

import "strings"

// attributeTable holds the attributes.
var attributeTable = []Attribute{
	{"objectClass", "", "2.5.4.0", Object, false},
	{"cn", "commonName", "2.5.4.3", Words, false},
	{"sn", "surname", "2.5.4.4", Words, false},
	{"serialNumber", "", "2.5.4.5", Exact, false},
	{"c", "countryName", "2.5.4.6", Words, true},
	{"o", "organizationName", "2.5.4.10", Words, false},
	{"ou", "organizationalUnitName", "2.5.4.11", Words, false},
	{"description", "", "2.5.4.13", Words, false},
	{"telephoneNumber", "", "2.5.4.20", Numeric, false},
	{"member", "", "2.5.4.31", Name, false},
	{"owner", "", "2.5.4.32", Name, false},
	{"seeAlso", "", "2.5.4.34", Name, false},
	{"userPassword", "", "2.5.4.35", Octets, false},
	{"givenName", "", "2.5.4.42", Words, false},
	{"uid", "userid", "0.9.2342.19200300.100.1.1", Words, false},
	{"mail", "", "0.9.2342.19200300.100.1.3", Words, false},
	{"dc", "domainComponent", "0.9.2342.19200300.100.1.25", Words, true},
	{"employeeNumber", "", "2.16.840.1.113730.3.1.3", Whole, true},
	{"enabled", "", "1.3.6.1.4.1.99999.1", Truth, true},
	{"weight", "", "1.3.6.1.4.1.99999.2", Real, true},
}

// classRow is a class, each of whose lists is one text with blanks between the names: a copy of a row with slices would share the table's memory.
type classRow struct {
	name, oid, super string
	kind             int
	must, may        string
}

// classTable holds the classes.
var classTable = []classRow{
	{"top", "2.5.6.0", "", Abstract, "objectClass", ""},
	{"country", "2.5.6.2", "top", Structural, "c", "description"},
	{"organization", "2.5.6.4", "top", Structural, "o", "description telephoneNumber"},
	{"organizationalUnit", "2.5.6.5", "top", Structural, "ou", "description seeAlso telephoneNumber"},
	{"person", "2.5.6.6", "top", Structural, "cn sn", "description seeAlso telephoneNumber userPassword"},
	{"inetOrgPerson", "2.16.840.1.113730.3.2.2", "person", Structural, "", "employeeNumber givenName mail uid"},
	{"group", "1.3.6.1.4.1.99999.3.1", "top", Structural, "cn", "description member owner seeAlso"},
	{"device", "2.5.6.14", "top", Structural, "cn", "description owner serialNumber weight"},
	{"dcObject", "1.3.6.1.4.1.1466.344", "top", Auxiliary, "dc", ""},
	{"login", "1.3.6.1.4.1.99999.3.2", "top", Auxiliary, "", "enabled uid userPassword"},
}

// class returns the class of a row, with lists in memory of their own.
func (r classRow) class() Class {
	return Class{Name: r.name, Oid: r.oid, Super: r.super, Kind: r.kind, Must: strings.Fields(r.must), May: strings.Fields(r.may)}
}
