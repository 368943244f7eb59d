package schema

// attributeTable holds the attributes.
var attributeTable = []Attribute{
	{"objectClass", "", "2.5.4.0", Object, false},
	{"cn", "commonName", "2.5.4.3", Words, false},
	{"sn", "surname", "2.5.4.4", Words, false},
	{"serialNumber", "", "2.5.4.5", Exact, false},
	{"c", "countryName", "2.5.4.6", Words, true},
	{"o", "organizationName", "2.5.4.10", Words, false},
	{"ou", "organizationalUnitName", "2.5.4.11", Words, false},
	{"description", "", "2.5.4.13", Words, false},
	{"telephoneNumber", "", "2.5.4.20", Numeric, false},
	{"member", "", "2.5.4.31", Name, false},
	{"owner", "", "2.5.4.32", Name, false},
	{"seeAlso", "", "2.5.4.34", Name, false},
	{"userPassword", "", "2.5.4.35", Octets, false},
	{"givenName", "", "2.5.4.42", Words, false},
	{"uid", "userid", "0.9.2342.19200300.100.1.1", Words, false},
	{"mail", "", "0.9.2342.19200300.100.1.3", Words, false},
	{"dc", "domainComponent", "0.9.2342.19200300.100.1.25", Words, true},
	{"employeeNumber", "", "2.16.840.1.113730.3.1.3", Whole, true},
	{"enabled", "", "1.3.6.1.4.1.99999.1", Truth, true},
	{"weight", "", "1.3.6.1.4.1.99999.2", Real, true},
}

// classTable holds the classes. Its lists are read only: what is handed out has copies of them.
var classTable = []Class{
	{"top", "2.5.6.0", "", Abstract, []string{"objectClass"}, nil},
	{"country", "2.5.6.2", "top", Structural, []string{"c"}, []string{"description"}},
	{"organization", "2.5.6.4", "top", Structural, []string{"o"}, []string{"description", "telephoneNumber"}},
	{"organizationalUnit", "2.5.6.5", "top", Structural, []string{"ou"}, []string{"description", "seeAlso", "telephoneNumber"}},
	{"person", "2.5.6.6", "top", Structural, []string{"cn", "sn"}, []string{"description", "seeAlso", "telephoneNumber", "userPassword"}},
	{"inetOrgPerson", "2.16.840.1.113730.3.2.2", "person", Structural, nil, []string{"employeeNumber", "givenName", "mail", "uid"}},
	{"group", "1.3.6.1.4.1.99999.3.1", "top", Structural, []string{"cn"}, []string{"description", "member", "owner", "seeAlso"}},
	{"device", "2.5.6.14", "top", Structural, []string{"cn"}, []string{"description", "owner", "serialNumber", "weight"}},
	{"dcObject", "1.3.6.1.4.1.1466.344", "top", Auxiliary, []string{"dc"}, nil},
	{"login", "1.3.6.1.4.1.99999.3.2", "top", Auxiliary, nil, []string{"enabled", "uid", "userPassword"}},
}
