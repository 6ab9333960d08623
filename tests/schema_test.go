package tests

import (
	"reflect"
	"slices"
	"strconv"
	"strings"
	"testing"

	"loop.example/g00540/impl"
)

func schemaOf(types ...impl.TypeDef) impl.Schema { return impl.Schema{Types: types} }

func typeDef(name string, fields ...impl.FieldDef) impl.TypeDef {
	return impl.TypeDef{Name: name, Fields: fields}
}

func fieldDef(name, kind string, args ...impl.ArgDef) impl.FieldDef {
	return impl.FieldDef{Name: name, Type: kind, Args: args}
}

func listDef(name, kind string, args ...impl.ArgDef) impl.FieldDef {
	return impl.FieldDef{Name: name, Type: kind, List: true, Args: args}
}

func bangDef(f impl.FieldDef) impl.FieldDef { f.Bang = true; return f }
func need(name string) impl.ArgDef          { return impl.ArgDef{Name: name, Need: true} }
func may(name string) impl.ArgDef           { return impl.ArgDef{Name: name} }

// querySchema has the type Query alone.
func querySchema(fields ...impl.FieldDef) impl.Schema { return schemaOf(typeDef("Query", fields...)) }

// plainText is the text of chapter 4, in its lines.
const plainText = `type Query { node ( id : Int ! ) : Node must ( id : Int ! ) : Node ! nodes : [ Node ] size : Int ! }
type Mutation { set ( id : Int ! value : Int ! ) : Node add ( id : Int ! by : Int ! ) : Node link ( id : Int ! to : Int ) : Node }
type Node { id : Int ! value : Int plus ( by : Int ! ) : Int next : Node need : Node ! }`

// plainTypes is what plainText says, written out.
func plainTypes() impl.Schema {
	return schemaOf(
		typeDef("Query", fieldDef("node", "Node", need("id")), bangDef(fieldDef("must", "Node", need("id"))), listDef("nodes", "Node"), bangDef(fieldDef("size", "Int"))),
		typeDef("Mutation", fieldDef("set", "Node", need("id"), need("value")), fieldDef("add", "Node", need("id"), need("by")), fieldDef("link", "Node", need("id"), may("to"))),
		typeDef("Node", bangDef(fieldDef("id", "Int")), fieldDef("value", "Int"), fieldDef("plus", "Int", need("by")), fieldDef("next", "Node"), bangDef(fieldDef("need", "Node"))))
}

// tidySchema has new lists, nil for empty ones, so that DeepEqual holds schemas against each other.
func tidySchema(s impl.Schema) (out impl.Schema) {
	for _, d := range s.Types {
		fields := d.Fields
		d.Fields = nil
		for _, f := range fields {
			f.Args = append([]impl.ArgDef(nil), f.Args...)
			d.Fields = append(d.Fields, f)
		}
		out.Types = append(out.Types, d)
	}
	return out
}

func wantSchema(t *testing.T, text string, want impl.Schema) {
	t.Helper()
	got, code := impl.ParseSchema(text)
	if code != impl.OK || !reflect.DeepEqual(tidySchema(got), tidySchema(want)) {
		t.Errorf("ParseSchema(%.100q) = %v, %d, want %v", text, got, code, want)
		return
	}
	if !impl.SchemaOK(got) || !impl.SameSchema(got, want) || !impl.SameSchema(want, got) {
		t.Errorf("SameSchema of what is read from %.100q = false", text)
	}
}

func wantNoSchema(t *testing.T, text string, want int) {
	t.Helper()
	got, code := impl.ParseSchema(text)
	if code != want || len(got.Types) != 0 {
		t.Errorf("ParseSchema(%.100q) = %v, code %d, want code %d", text, got, code, want)
	}
}

// wantToldSchema fails unless the schema is right, is told so, and is read back from that text and from the others.
func wantToldSchema(t *testing.T, s impl.Schema, text string, also ...string) {
	t.Helper()
	if !impl.SchemaOK(s) {
		t.Errorf("SchemaOK of %.100q = false", text)
	}
	if told, code := impl.PrintSchema(s); told != text || code != impl.OK {
		t.Errorf("PrintSchema = %q, %d, want %q", told, code, text)
	}
	for _, source := range append(also, text) {
		wantSchema(t, source, s)
	}
	wantFound(t, s)
}

// wantFound fails unless each type and each field is found by its name.
func wantFound(t *testing.T, s impl.Schema) {
	t.Helper()
	for i, d := range s.Types {
		if at, code := impl.TypeAt(s, d.Name); at != i || code != impl.OK {
			t.Errorf("TypeAt(%q) = %d, %d, want %d", d.Name, at, code, i)
		}
		for _, f := range d.Fields {
			got, code := impl.FieldAt(s, d.Name, f.Name)
			if code != impl.OK || !reflect.DeepEqual(tidySchema(querySchema(got)), tidySchema(querySchema(f))) {
				t.Errorf("FieldAt(%q, %q) = %v, %d, want %v", d.Name, f.Name, got, code, f)
			}
		}
	}
}

func isZeroField(f impl.FieldDef) bool {
	return f.Name == "" && len(f.Args) == 0 && f.Type == "" && !f.List && !f.Bang
}

func TestPlainSchema(t *testing.T) {
	s := impl.PlainSchema()
	if !reflect.DeepEqual(tidySchema(s), tidySchema(plainTypes())) {
		t.Errorf("PlainSchema = %v", s)
	}
	wantToldSchema(t, s, strings.ReplaceAll(plainText, "\n", " "), plainText, strings.ReplaceAll(plainText, " ", "\n,# }\n"))
}

func TestSchemasAreReadBack(t *testing.T) {
	for _, c := range []struct {
		fields []impl.FieldDef
		text   string
		closed string
	}{
		{[]impl.FieldDef{fieldDef("a", "Int")}, "a : Int", "a:Int"},
		{[]impl.FieldDef{bangDef(fieldDef("a", "Int"))}, "a : Int !", "a:Int!"},
		{[]impl.FieldDef{listDef("a", "Int")}, "a : [ Int ]", "a:[Int]"},
		{[]impl.FieldDef{bangDef(listDef("a", "Int"))}, "a : [ Int ] !", "a:[Int]!"},
		{[]impl.FieldDef{fieldDef("a", "Query")}, "a : Query", "a:Query"},
		{[]impl.FieldDef{bangDef(fieldDef("a", "Query"))}, "a : Query !", "a:Query!"},
		{[]impl.FieldDef{listDef("a", "Query")}, "a : [ Query ]", "a:[Query]"},
		{[]impl.FieldDef{bangDef(listDef("a", "Query"))}, "a : [ Query ] !", "a:[Query]!"},
		{[]impl.FieldDef{fieldDef("a", "Int", may("x"))}, "a ( x : Int ) : Int", "a(x:Int):Int"},
		{[]impl.FieldDef{fieldDef("a", "Int", need("x"))}, "a ( x : Int ! ) : Int", "a(x:Int!):Int"},
		{[]impl.FieldDef{fieldDef("a", "Int", may("x"), need("y"))}, "a ( x : Int y : Int ! ) : Int", "a(x:Int,y:Int!):Int"},
		{[]impl.FieldDef{fieldDef("a", "Int", need("x"), may("y"))}, "a ( x : Int ! y : Int ) : Int", "a(x:Int!y:Int):Int"},
		{[]impl.FieldDef{bangDef(listDef("a", "Query", need("x"), need("y"), may("z"), need("a")))}, "a ( x : Int ! y : Int ! z : Int a : Int ! ) : [ Query ] !", "a(x:Int!y:Int!z:Int,a:Int!):[Query]!"},
		{[]impl.FieldDef{fieldDef("a", "Int"), fieldDef("b", "Int")}, "a : Int b : Int", "a:Int,b:Int"},
		{[]impl.FieldDef{bangDef(fieldDef("a", "Int")), fieldDef("b", "Int")}, "a : Int ! b : Int", "a:Int!b:Int"},
		{[]impl.FieldDef{listDef("a", "Int"), bangDef(listDef("b", "Query")), fieldDef("c", "Int")}, "a : [ Int ] b : [ Query ] ! c : Int", "a:[Int]b:[Query]!c:Int"},
		{[]impl.FieldDef{fieldDef("a", "Int", may("x")), fieldDef("b", "Int", may("x"))}, "a ( x : Int ) : Int b ( x : Int ) : Int", "a(x:Int):Int,b(x:Int):Int"},
		{[]impl.FieldDef{fieldDef("b", "Int"), fieldDef("a", "Int"), fieldDef("A", "Int")}, "b : Int a : Int A : Int", "b:Int a:Int A:Int"},
		{[]impl.FieldDef{fieldDef(strings.Repeat("n", 40), "Int", need(strings.Repeat("m", 40)))}, strings.Repeat("n", 40) + " ( " + strings.Repeat("m", 40) + " : Int ! ) : Int", strings.Repeat("n", 40) + "(" + strings.Repeat("m", 40) + ":Int!):Int"},
	} {
		wantToldSchema(t, querySchema(c.fields...), "type Query { "+c.text+" }", "type Query{"+c.closed+"}", "type,Query#type\n{\t"+c.text+"\r\n},,#", strings.ReplaceAll("type Query { "+c.text+" }", " ", ",#!\n"))
	}
}

func TestManyTypesAreReadBack(t *testing.T) {
	a, q := typeDef("A", fieldDef("q", "Query"), fieldDef("a", "A")), typeDef("Query", listDef("a", "A"))
	wantToldSchema(t, schemaOf(q, a), "type Query { a : [ A ] } type A { q : Query a : A }", "type Query{a:[A]}type A{q:Query,a:A}")
	wantToldSchema(t, schemaOf(a, q), "type A { q : Query a : A } type Query { a : [ A ] }")
	wantToldSchema(t, schemaOf(typeDef("B", fieldDef("x", "C")), typeDef("Query", fieldDef("x", "Int")), typeDef("C", fieldDef("x", "B"))), "type B { x : C } type Query { x : Int } type C { x : B }")
	wantToldSchema(t, schemaOf(typeDef("query", fieldDef("query", "query")), typeDef("Query", fieldDef("Query", "query"))), "type query { query : query } type Query { Query : query }")
}

// schemaWords may stand as names wherever no rule says that they do not.
var schemaWords = append([]string{"type", "Int", "Query", "Mutation", "int", "INT", "_", "__type", "__typenames", "_typename", "__Typename"}, languageWords...)

func TestWordsOfTheLanguageInSchemas(t *testing.T) {
	for _, w := range schemaWords {
		wantToldSchema(t, querySchema(fieldDef(w, "Int", need(w))), "type Query { "+w+" ( "+w+" : Int ! ) : Int }")
		wantToldSchema(t, querySchema(fieldDef("a", "Int"), fieldDef(w, "Query", may("a"), may(w))), "type Query { a : Int "+w+" ( a : Int "+w+" : Int ) : Query }")
		if w != "Int" && w != "Query" {
			wantToldSchema(t, schemaOf(typeDef(w, fieldDef(w, w)), typeDef("Query", listDef(w, w))), "type "+w+" { "+w+" : "+w+" } type Query { "+w+" : [ "+w+" ] }")
			wantNoSchema(t, "type Query { a : "+w+" }", impl.ErrBad)
			wantNoSchema(t, "type "+w+" { a : Int }", impl.ErrBad)
		}
		if w != "Int" {
			wantNoSchema(t, "type Query { a ( x : "+w+" ) : Int }", impl.ErrForm)
			wantNoSchema(t, "type Query { a ( x : "+w+" ! ) : Int }", impl.ErrForm)
		}
		if w != "type" {
			wantNoSchema(t, w+" Query { a : Int }", impl.ErrForm)
			wantNoSchema(t, "type Query { a : Int } "+w+" A { a : Int }", impl.ErrForm)
		}
	}
	wantToldSchema(t, querySchema(fieldDef("a", "Int", need("__typename"))), "type Query { a ( __typename : Int ! ) : Int }")
	wantToldSchema(t, schemaOf(typeDef("__typename", fieldDef("a", "__typename")), typeDef("Query", fieldDef("a", "__typename"))), "type __typename { a : __typename } type Query { a : __typename }")
	wantNoSchema(t, "type Query { __typename : Int }", impl.ErrBad)
	wantNoSchema(t, "type Query { a : Int } type A { a : Int __typename ( x : Int ) : [ A ] ! }", impl.ErrBad)
	wantNoSchema(t, "type Int { a : Int } type Query { a : Int }", impl.ErrBad)
	wantNoSchema(t, "type Query { a : Int } type Int { a : Query }", impl.ErrBad)
}

func TestTextsOfNoSchema(t *testing.T) {
	for _, text := range []string{
		"{", "}", "a", "1", "$a", "Query", "type", "type type", "type {", "type { }", "type { a : Int }", "type Query", "type Query a", "type Query : Int", "type Query ( a : Int )", "type Query A { a : Int }", "type 1 { a : Int }", "type $a { a : Int }", "type Query {", "type Query }", "type Query { { a : Int } }", "type Query { a : Int } }", "{ type Query { a : Int } }", "{ a : Int }", "Type Query { a : Int }", "types Query { a : Int }", "query { a : Int }", "query Query { a : Int }", "type Query type A { a : Int }", "type Query { type A { a : Int } }",
		"type Query { a }", "type Query { a : }", "type Query { : Int }", "type Query { a Int }", "type Query { a : Int", "type Query { a : : Int }", "type Query { a : Int : Int }", "type Query { a : 1 }", "type Query { a : $Int }", "type Query { 3 : Int }", "type Query { $a : Int }", "type Query { a b : Int }", "type Query { a : Int Int }", "type Query { a : Int b }", "type Query { a : Int b : }", "type Query { ! }", "type Query { a ! : Int }", "type Query { a : ! }", "type Query { a : ! Int }", "type Query { a : Int ! ! }", "type Query { a : Int ! : }", "type Query { a : { b : Int } }", "type Query { a : Int { b } }", "type Query { a : ... }", "type Query { ... a }", "type Query { a : Int @skip(if: 1) }", "type Query @skip(if: 1) { a : Int }",
		"type Query { a : [ ] }", "type Query { a : [ Int }", "type Query { a : Int ] }", "type Query { a : [ Int Int ] }", "type Query { a : [ Int ! ] }", "type Query { a : [ Int ! ] ! }", "type Query { a : [ [ Int ] ] }", "type Query { a : [ Int ] ] }", "type Query { a : [ [ Int ] }", "type Query { a : [ 1 ] }", "type Query { a : ( Int ) }", "type Query { a : [ Int ) }", "type Query { a : ! [ Int ] }", "type Query { a : [ Int ] ! ! }", "type Query { [ a ] : Int }",
		"type Query { a ( ) : Int }", "type Query { a ( x ) : Int }", "type Query { a ( x : ) : Int }", "type Query { a ( : Int ) : Int }", "type Query { a ( x Int ) : Int }", "type Query { a ( x : Int : Int }", "type Query { a ( x : Int }", "type Query { a ( x : Int ) }", "type Query { a ( x : Int ) Int }", "type Query { a ( x : Int ! ! ) : Int }", "type Query { a ( x : ! ) : Int }", "type Query { a ( x : ! Int ) : Int }", "type Query { a ( x ! : Int ) : Int }", "type Query { a ( x : Node ) : Int }", "type Query { a ( x : Query ) : Int }", "type Query { a ( x : [ Int ] ) : Int }", "type Query { a ( x : int ) : Int }", "type Query { a ( x : Int y ) : Int }", "type Query { a ( x : Int Int ) : Int }", "type Query { a ( x : 1 ) : Int }", "type Query { a ( 1 : Int ) : Int }", "type Query { a ( $x : Int ) : Int }", "type Query { a ( x : Int ) ( y : Int ) : Int }", "type Query { a ( ( x : Int ) ) : Int }", "type Query { a ( x : Int ) ! : Int }", "type Query { ( x : Int ) : Int }", "type Query { a : ( x : Int ) Int }", "type Query { a : Int ( x : Int ) }", "type Query { a ) : Int }", "type Query { a [ x : Int ] : Int }", "type Query { a { x : Int } : Int }", "type Query { a ( x : Int ) : Int ( y : Int ) }",
		"%", "type Query { a : Int } %", "type Query { a : Int } .", "type Query { a : 01 }", "type Query { a . b : Int }", "type Query { a-b : Int }", "type Qué { a : Int }", "type Query { a = Int }", "type Query { a | b : Int }", "\x00", "\xff",
		"type " + strings.Repeat("n", 41) + " { a : Int }", "type Query { " + strings.Repeat("n", 41) + " : Int }", "type Query { a ( " + strings.Repeat("n", 41) + " : Int ) : Int }", "type Query { a : " + strings.Repeat("n", 41) + " }",
	} {
		wantNoSchema(t, text, impl.ErrForm)
		wantNoSchema(t, "type Query { a : Int } "+text, impl.ErrForm)
	}
}

func TestSchemasThatAreCutShort(t *testing.T) {
	one := "type Query { node ( id : Int ! to : Int ) : Query must : [ Query ] ! nodes : [ Int ] size : Int ! end : Query }"
	tokens, _ := impl.Lex(one)
	for n := 1; n < len(tokens); n++ {
		short, _ := impl.JoinTokens(tokens[:n])
		wantNoSchema(t, short, impl.ErrForm)
		wantNoSchema(t, plainText+short, impl.ErrForm)
		wantNoSchema(t, "type A { } "+short, impl.ErrForm)
	}
	for n := range one {
		want := impl.ErrForm
		if n == 0 {
			want = impl.ErrBad
		}
		wantNoSchema(t, one[:n], want)
	}
	read, code := impl.ParseSchema(one)
	if code != impl.OK {
		t.Fatal("ParseSchema", code)
	}
	wantFound(t, read)
}

// Texts that read, and tell schemas that are not right.
func TestTextsOfSchemasThatAreNotRight(t *testing.T) {
	for _, text := range []string{
		"", " ", ",", "# type Query { a : Int }", "type Query { }", "type Query {}", "type A { }", "type Int { }", "type Query { } type Query { }", "type Query { a : Int } type A { }", "type A { } type Query { a : Int }",
		"type Other { a : Int }", "type query { a : Int }", "type QUERY { a : Int }", "type Query_ { a : Int }", "type Mutation { a : Int }", "type A { a : Int } type B { a : Int }",
		"type Query { a : Other }", "type Query { a : [ Other ] }", "type Query { a : Other ! }", "type Query { a : query }", "type Query { a : int }", "type Query { a : INT }", "type Query { a : a }", "type Query { a : Int b : Mutation }", "type Query { a : A } type B { a : Int }", "type Query { a : Int } type B { a : A }", "type Query { a : __typename }", "type Query { a : [ type ] }",
		"type Query { a : Int a : Int }", "type Query { a : Int a : Query }", "type Query { a : Int b : Int a : Int }", "type Query { a : Int a ( x : Int ) : Int }", "type Query { a : Int } type A { b : Int b : Int }",
		"type Query { a : Int } type Query { b : Int }", "type Query { a : Int } type Query { a : Int }", "type Query { a : Int } type A { a : Int } type A { a : Int }", "type A { a : Int } type Query { a : Int } type A { b : Int }",
		"type Query { a ( x : Int x : Int ) : Int }", "type Query { a ( x : Int x : Int ! ) : Int }", "type Query { a ( x : Int y : Int x : Int ) : Int }", "type Query { a : Int b ( x : Int ! x : Int ! ) : Int }", "type Query { a : Int } type A { a ( x : Int x : Int ) : Int }",
		"type Query { a ( b : Int c : Int d : Int e : Int f : Int ) : Int }", "type Query { a : Int } type A { a ( b : Int ! c : Int d : Int e : Int f : Int ) : A }",
	} {
		wantNoSchema(t, text, impl.ErrBad)
	}
}

// numbered is a text of n parts, each with its number.
func numbered(n int, part func(i string) string) string {
	text := ""
	for i := range n {
		text += part(strconv.Itoa(i))
	}
	return text
}

// sizedText has so many types, each with so many fields, each with so many arguments.
func sizedText(types, fields, args int) string {
	arguments := ""
	if args > 0 {
		arguments = "(" + numbered(args, func(i string) string { return "x" + i + ":Int " }) + ")"
	}
	inside := "{" + numbered(fields, func(i string) string { return "f" + i + arguments + ":Int " }) + "}"
	return "type Query" + inside + numbered(types-1, func(i string) string { return "type T" + i + inside })
}

func TestLimitsOfSchemas(t *testing.T) {
	for types := 1; types <= 10; types++ {
		for _, fields := range []int{0, 1, 9, 10, 11, 12} {
			for _, args := range []int{0, 1, 3, 4, 5, 6} {
				text := sizedText(types, fields, args)
				if types > 8 || fields < 1 || fields > 10 || args > 4 && fields > 0 {
					wantNoSchema(t, text, impl.ErrBad)
					continue
				}
				s, code := impl.ParseSchema(text)
				if code != impl.OK || len(s.Types) != types || len(s.Types[types-1].Fields) != fields || len(s.Types[0].Fields[fields-1].Args) != args {
					t.Errorf("ParseSchema of %d types, %d fields, %d arguments = %d", types, fields, args, code)
				}
				wantFound(t, s)
			}
		}
	}
	wantNoSchema(t, sizedText(8, 10, 4)+"type T", impl.ErrForm)
	wantNoSchema(t, sizedText(9, 1, 0)+"a", impl.ErrForm)
	wantNoSchema(t, sizedText(1, 11, 5)+"}", impl.ErrForm)
	wantNoSchema(t, sizedText(500, 0, 0), impl.ErrBad)
	wantNoSchema(t, sizedText(1, 1000, 0), impl.ErrBad)
	wantNoSchema(t, sizedText(1, 1, 1000), impl.ErrBad)
}

// The greatest schema is told by a text that can be read.
func TestTheGreatestSchema(t *testing.T) {
	long := func(first string, i int) string { return first + strings.Repeat("n", 38) + strconv.Itoa(i) }
	args := []impl.ArgDef{need(long("a", 0)), need(long("a", 1)), need(long("a", 2)), need(long("a", 3))}
	var s impl.Schema
	for i := range 8 {
		d := typeDef(long("T", i))
		if i == 0 {
			d.Name = "Query"
		}
		for k := range 10 {
			d.Fields = append(d.Fields, bangDef(listDef(long("f", k), long("T", 1+(i+k)%7), args...)))
		}
		s.Types = append(s.Types, d)
	}
	text, code := impl.PrintSchema(s)
	if code != impl.OK || len(text) > impl.MaxText {
		t.Fatal("PrintSchema", len(text), code)
	}
	wantToldSchema(t, s, text)
}

func TestCodesOfTokensComeFirstInSchemas(t *testing.T) {
	blanks := strings.Repeat(" ", impl.MaxText)
	for _, text := range []string{"", "%", "type", plainText} {
		wantNoSchema(t, text+blanks+"%", impl.ErrLong)
		wantNoSchema(t, blanks+" "+text, impl.ErrLong)
	}
	wantSchema(t, plainText+blanks[len(plainText):], plainTypes())
	wantNoSchema(t, plainText+blanks[len(plainText)-1:], impl.ErrLong)
	many := strings.Repeat("a ", 4000)
	wantNoSchema(t, many, impl.ErrForm)
	wantNoSchema(t, many+"a", impl.ErrMany)
	wantNoSchema(t, many+"%", impl.ErrForm)
	wantNoSchema(t, many+"a %", impl.ErrMany)
	wantNoSchema(t, plainText+many, impl.ErrMany)
	wantNoSchema(t, strings.Repeat("type Query { } ", 1000), impl.ErrBad)
	wantNoSchema(t, strings.Repeat("type Query { } ", 1000)+"type", impl.ErrMany)
	wantNoSchema(t, "type Query { "+strings.Repeat("a : Int ", 1332)+"}", impl.ErrBad)
	wantNoSchema(t, "type Query { "+strings.Repeat("a : Int ", 1333)+"}", impl.ErrMany)
	wantNoSchema(t, "type Query { "+strings.Repeat("a : Int ", 1332), impl.ErrForm)
	// A fault of form comes ahead of what is not right, wherever it stands.
	wantNoSchema(t, "type Query { a : Int a : Int } type", impl.ErrForm)
	wantNoSchema(t, "type Int { __typename : Other } }", impl.ErrForm)
}

func TestTypeAt(t *testing.T) {
	s := impl.PlainSchema()
	for i, name := range []string{"Query", "Mutation", "Node"} {
		if at, code := impl.TypeAt(s, name); at != i || code != impl.OK {
			t.Errorf("TypeAt(%q) = %d, %d, want %d", name, at, code, i)
		}
	}
	for _, name := range []string{"", "Int", "query", "Quer", "Querys", "Query ", " Node", "node", "id", "size", "type", "__typename", "9", "$a", "\xff", "Qu\x00ery", strings.Repeat("N", 41), strings.Repeat("N", impl.MaxText)} {
		if at, code := impl.TypeAt(s, name); at != 0 || code != impl.ErrNone {
			t.Errorf("TypeAt(%.50q) = %d, %d", name, at, code)
		}
		if f, code := impl.FieldAt(s, name, "id"); !isZeroField(f) || code != impl.ErrNone {
			t.Errorf("FieldAt(%.50q, id) = %v, %d", name, f, code)
		}
	}
}

func TestFieldAt(t *testing.T) {
	s := impl.PlainSchema()
	for _, d := range plainTypes().Types {
		has := map[string]bool{}
		for _, f := range d.Fields {
			has[f.Name] = true
		}
		for _, name := range []string{"node", "must", "nodes", "size", "set", "add", "link", "id", "value", "plus", "next", "need", "by", "to", "", "Int", "Node", "__typename", "ID", "id ", "9", "\xff", strings.Repeat("n", 41), strings.Repeat("n", impl.MaxText)} {
			f, code := impl.FieldAt(s, d.Name, name)
			switch {
			case has[name] && (code != impl.OK || f.Name != name):
				t.Errorf("FieldAt(%q, %q) = %v, %d", d.Name, name, f, code)
			case !has[name] && (code != impl.ErrField || !isZeroField(f)):
				t.Errorf("FieldAt(%q, %.50q) = %v, %d", d.Name, name, f, code)
			}
		}
	}
	wantFound(t, s)
	// A field is its own type's: others of the name are not looked at.
	twins := schemaOf(typeDef("A", fieldDef("x", "A", need("p"))), typeDef("Query", listDef("x", "Query", may("q"))), typeDef("B", bangDef(fieldDef("x", "Int"))))
	wantFound(t, twins)
}

func TestWhichCodeOfSchemasComesFirst(t *testing.T) {
	long := strings.Repeat("n", impl.MaxText+1)
	edge := strings.Repeat("n", impl.MaxText)
	right, wrong := impl.PlainSchema(), querySchema()
	for _, c := range []struct {
		s    impl.Schema
		name string
		want int
	}{{right, long, impl.ErrLong}, {wrong, long, impl.ErrLong}, {wrong, edge, impl.ErrBad}, {right, edge, impl.ErrNone}, {wrong, "Query", impl.ErrBad}, {wrong, "None", impl.ErrBad}, {impl.Schema{}, "", impl.ErrBad}} {
		if at, code := impl.TypeAt(c.s, c.name); at != 0 || code != c.want {
			t.Errorf("TypeAt(%.20q) = %d, %d, want code %d", c.name, at, code, c.want)
		}
	}
	for _, c := range []struct {
		s           impl.Schema
		name, field string
		want        int
	}{
		{right, long, "id", impl.ErrLong}, {right, "Node", long, impl.ErrLong}, {right, "None", long, impl.ErrLong}, {right, long, long, impl.ErrLong}, {wrong, long, "id", impl.ErrLong}, {wrong, "Query", long, impl.ErrLong},
		{wrong, edge, edge, impl.ErrBad}, {wrong, "Query", "a", impl.ErrBad}, {wrong, "None", "a", impl.ErrBad}, {right, edge, edge, impl.ErrNone}, {right, "None", "id", impl.ErrNone}, {right, "None", "none", impl.ErrNone}, {right, "Node", "none", impl.ErrField}, {right, "Node", edge, impl.ErrField},
	} {
		if f, code := impl.FieldAt(c.s, c.name, c.field); !isZeroField(f) || code != c.want {
			t.Errorf("FieldAt(%.20q, %.20q) = %v, %d, want code %d", c.name, c.field, f, code, c.want)
		}
	}
}

func TestSameSchema(t *testing.T) {
	base := func() impl.Schema {
		return schemaOf(typeDef("Query", fieldDef("a", "Int", need("x"), may("y")), bangDef(listDef("b", "A"))), typeDef("A", fieldDef("c", "Query"), fieldDef("d", "Int")), typeDef("C", fieldDef("a", "Int")))
	}
	first := func(s *impl.Schema) *impl.FieldDef { return &s.Types[0].Fields[0] }
	changes := []func(s *impl.Schema){
		func(s *impl.Schema) { slices.Reverse(s.Types) }, func(s *impl.Schema) { slices.Reverse(s.Types[0].Fields) }, func(s *impl.Schema) { slices.Reverse(first(s).Args) },
		func(s *impl.Schema) { s.Types = append(s.Types, typeDef("B", fieldDef("a", "Int"))) }, func(s *impl.Schema) { s.Types[1].Fields = s.Types[1].Fields[:1] }, func(s *impl.Schema) { s.Types[1].Fields = append(s.Types[1].Fields, fieldDef("e", "Int")) },
		func(s *impl.Schema) { s.Types[0].Fields = s.Types[0].Fields[:1]; s.Types = s.Types[:1] }, func(s *impl.Schema) { s.Types[1].Name, s.Types[0].Fields[1].Type = "B", "B" }, func(s *impl.Schema) { s.Types[2].Name = "D" }, func(s *impl.Schema) { s.Types = s.Types[:2] },
		func(s *impl.Schema) { first(s).Name = "c" }, func(s *impl.Schema) { first(s).Type = "Query" }, func(s *impl.Schema) { first(s).List = true }, func(s *impl.Schema) { first(s).Bang = true }, func(s *impl.Schema) { s.Types[0].Fields[1].List = false }, func(s *impl.Schema) { s.Types[0].Fields[1].Bang = false },
		func(s *impl.Schema) { first(s).Args = nil }, func(s *impl.Schema) { first(s).Args = first(s).Args[:1] }, func(s *impl.Schema) { first(s).Args = append(first(s).Args, need("z")) }, func(s *impl.Schema) { first(s).Args[0].Name = "z" }, func(s *impl.Schema) { first(s).Args[0].Need = false }, func(s *impl.Schema) { first(s).Args[1].Need = true }, func(s *impl.Schema) { s.Types[1].Fields[1].Args = []impl.ArgDef{may("x")} },
	}
	for i, change := range changes {
		s := base()
		change(&s)
		if !impl.SameSchema(s, s) || !impl.SameSchema(base(), base()) || impl.SameSchema(s, base()) || impl.SameSchema(base(), s) {
			t.Errorf("SameSchema of change %d", i)
		}
	}
	if !impl.SameSchema(impl.PlainSchema(), plainTypes()) || impl.SameSchema(impl.PlainSchema(), base()) {
		t.Error("SameSchema of PlainSchema")
	}
}

// An empty list and nil are the same.
func TestEmptyListsOfSchemas(t *testing.T) {
	plain, empty := querySchema(fieldDef("a", "Int"), listDef("b", "Query")), querySchema(fieldDef("a", "Int"), listDef("b", "Query"))
	for i := range empty.Types[0].Fields {
		empty.Types[0].Fields[i].Args = make([]impl.ArgDef, 0, i)
		plain.Types[0].Fields[i].Args = nil
	}
	if !impl.SchemaOK(empty) || !impl.SameSchema(plain, empty) || !impl.SameSchema(empty, plain) {
		t.Error("empty lists are held to be other than nil")
	}
	wantToldSchema(t, empty, "type Query { a : Int b : [ Query ] }")
	wantBadSchema(t, impl.Schema{Types: []impl.TypeDef{}})
	wantBadSchema(t, schemaOf(impl.TypeDef{Name: "Query", Fields: []impl.FieldDef{}}))
}
