package tests

import (
	"fmt"
	"math/rand"
	"reflect"
	"regexp"
	"slices"
	"strings"
	"testing"

	"loop.example/g00540/impl"
)

func wantBadSchema(t *testing.T, s impl.Schema) {
	t.Helper()
	right := impl.PlainSchema()
	if impl.SchemaOK(s) || impl.SameSchema(s, s) || impl.SameSchema(s, right) || impl.SameSchema(right, s) {
		t.Errorf("a schema that is not right is held to be: %.200v", s)
	}
	if text, code := impl.PrintSchema(s); text != "" || code != impl.ErrBad {
		t.Errorf("PrintSchema of a schema that is not right = %.60q, %d", text, code)
	}
	for _, name := range []string{"Query", "A", "None", "Int", ""} {
		if at, code := impl.TypeAt(s, name); at != 0 || code != impl.ErrBad {
			t.Errorf("TypeAt(%q) of a schema that is not right = %d, %d", name, at, code)
		}
		for _, field := range []string{"a", "none", ""} {
			if f, code := impl.FieldAt(s, name, field); !isZeroField(f) || code != impl.ErrBad {
				t.Errorf("FieldAt(%q, %q) of a schema that is not right = %v, %d", name, field, f, code)
			}
		}
	}
}

func wrongArgDefs() [][]impl.ArgDef {
	list := [][]impl.ArgDef{
		{{}}, {need("")}, {may("x"), may("")}, {may("x"), may("x")}, {need("x"), may("x")}, {may("x"), may("y"), may("x")}, {may("x"), may("y"), may("y")},
		{may("a"), may("b"), may("c"), may("d"), may("e")}, make([]impl.ArgDef, 5000),
	}
	for _, name := range wrongNames() {
		list = append(list, []impl.ArgDef{may(name)}, []impl.ArgDef{need("x"), need(name)})
	}
	return list
}

func wrongFields() [][]impl.FieldDef {
	a, b := fieldDef("a", "Int"), fieldDef("b", "Query")
	list := [][]impl.FieldDef{
		{}, {{}}, {a, {}}, {fieldDef("", "Int")}, {fieldDef("a", "")}, {fieldDef("__typename", "Int")}, {a, listDef("__typename", "Query", need("x"))}, {a, a}, {a, b, a}, {a, b, listDef("b", "Int")}, {fieldDef("a", "Other")}, {b, listDef("a", "Other")}, {fieldDef("a", "int")}, {fieldDef("a", "[ Int ]")}, {fieldDef("a", "Int !")}, {fieldDef("a", " Int")}, {fieldDef("a", "a")},
		slices.Repeat([]impl.FieldDef{a}, 5000),
	}
	var eleven []impl.FieldDef
	for i := range 11 {
		eleven = append(eleven, fieldDef(fmt.Sprint("f", i), "Int"))
	}
	list = append(list, eleven)
	for _, args := range wrongArgDefs() {
		list = append(list, []impl.FieldDef{fieldDef("a", "Int", args...)}, []impl.FieldDef{b, bangDef(listDef("a", "Query", args...))})
	}
	for _, name := range wrongNames() {
		list = append(list, []impl.FieldDef{fieldDef(name, "Int")}, []impl.FieldDef{a, fieldDef(name, "Int")}, []impl.FieldDef{fieldDef("a", name)})
	}
	return list
}

func TestSchemasThatAreNotRight(t *testing.T) {
	q, a := typeDef("Query", fieldDef("a", "Int")), typeDef("A", fieldDef("a", "A"))
	for _, s := range []impl.Schema{
		{}, schemaOf(typeDef("")), schemaOf(impl.TypeDef{}, q), schemaOf(a), schemaOf(q, q), schemaOf(q, a, a), schemaOf(a, q, a), schemaOf(q, a, q), schemaOf(typeDef("query", fieldDef("a", "Int"))), schemaOf(q, typeDef("Int", fieldDef("a", "Int"))), schemaOf(typeDef("Int", fieldDef("a", "Int")), q), schemaOf(q, typeDef("", fieldDef("a", "Int"))),
		schemaOf(slices.Repeat([]impl.TypeDef{q}, 9)...), schemaOf(slices.Repeat([]impl.TypeDef{a}, 100000)...),
	} {
		wantBadSchema(t, s)
	}
	for _, name := range wrongNames() {
		wantBadSchema(t, schemaOf(q, typeDef(name, fieldDef("a", "Int"))))
		wantBadSchema(t, schemaOf(typeDef(name, fieldDef("a", name)), q))
	}
	for _, fields := range wrongFields() {
		wantBadSchema(t, querySchema(fields...))
		wantBadSchema(t, schemaOf(q, typeDef("A", fields...)))
		wantBadSchema(t, schemaOf(typeDef("A", fields...), q))
	}
	for n := 1; n <= 10; n++ {
		s := schemaOf(q)
		for i := 1; i < n; i++ {
			s.Types = append(s.Types, typeDef(fmt.Sprint("T", i), fieldDef("a", "Int")))
		}
		if impl.SchemaOK(s) != (n <= 8) {
			t.Errorf("SchemaOK of %d types = %v", n, n > 8)
		}
	}
}

// randomSchema makes a right schema of few names.
func randomSchema(random *rand.Rand) (s impl.Schema) {
	names := append([]string{"a", "b", "Z9", strings.Repeat("n", 40)}, schemaWords...)
	pick := func(n int) (list []string) {
		for _, at := range random.Perm(len(names))[:n] {
			list = append(list, names[at])
		}
		return list
	}
	types := []string{"Query"}
	for _, name := range pick(random.Intn(8)) {
		if name != "Int" && name != "Query" {
			types = append(types, name)
		}
	}
	random.Shuffle(len(types), func(i, k int) { types[i], types[k] = types[k], types[i] })
	kinds := append([]string{"Int"}, types...)
	for _, name := range types {
		d := typeDef(name)
		for _, name := range pick(1 + random.Intn(10)) {
			f := impl.FieldDef{Name: name, Type: kinds[random.Intn(len(kinds))], List: random.Intn(2) == 0, Bang: random.Intn(2) == 0}
			for _, name := range pick(random.Intn(5)) {
				f.Args = append(f.Args, impl.ArgDef{Name: name, Need: random.Intn(2) == 0})
			}
			d.Fields = append(d.Fields, f)
		}
		s.Types = append(s.Types, d)
	}
	return s
}

// wordsOfSchema tells a schema by its tokens, as chapter 4 does.
func wordsOfSchema(s impl.Schema) []string {
	bang := map[bool]string{true: "!"}
	text := ""
	for _, d := range s.Types {
		text += fmt.Sprintf("type %s { ", d.Name)
		for _, f := range d.Fields {
			text += f.Name + " "
			for i, a := range f.Args {
				if i == 0 {
					text += "( "
				}
				text += fmt.Sprintf("%s : Int %s ", a.Name, bang[a.Need])
				if i == len(f.Args)-1 {
					text += ") "
				}
			}
			kind := f.Type
			if f.List {
				kind = "[ " + kind + " ]"
			}
			text += fmt.Sprintf(": %s %s ", kind, bang[f.Bang])
		}
		text += "} "
	}
	return strings.Fields(text)
}

func TestRandomSchemasAreReadBack(t *testing.T) {
	random := rand.New(rand.NewSource(4))
	var other impl.Schema
	for range 1000 {
		s := randomSchema(random)
		text := strings.Join(wordsOfSchema(s), " ")
		wantToldSchema(t, s, text, strings.ReplaceAll(text, " ", "\n,# }\n"), strings.NewReplacer(" : ", ":", " !", "!", " { ", "{", " }", "}", "[ ", "[").Replace(text))
		same := reflect.DeepEqual(tidySchema(s), tidySchema(other))
		if impl.SameSchema(s, other) != same || impl.SameSchema(other, s) != same {
			t.Errorf("SameSchema of %q and another one = %v", text, !same)
		}
		other = s
	}
}

// schemaPattern is the form of a schema's text, told again: its tokens, a blank behind each.
var schemaPattern = func() *regexp.Regexp {
	const name = `[A-Za-z_][A-Za-z_0-9]* `
	const field = name + `(?:\( (?:` + name + `: Int (?:! )?)+\) )?: (?:\[ ` + name + `\] |` + name + `)(?:! )?`
	return regexp.MustCompile(`^(?:type ` + name + `\{ (?:` + field + `)*\} )*$`)
}()

// twice says whether a text of the list comes again.
func twice(list []string) bool {
	list = slices.Sorted(slices.Values(list))
	return len(slices.Compact(slices.Clone(list))) != len(list)
}

// rightBySentence is chapter 4's sentence, told again.
func rightBySentence(s impl.Schema) bool {
	var types []string
	for _, d := range s.Types {
		types = append(types, d.Name)
	}
	right := len(types) >= 1 && len(types) <= 8 && slices.Contains(types, "Query") && !slices.Contains(types, "Int") && !twice(types)
	for _, d := range s.Types {
		var names []string
		for _, f := range d.Fields {
			names = append(names, f.Name)
			var args []string
			for _, a := range f.Args {
				args = append(args, a.Name)
			}
			right = right && slices.Contains(append(types, "Int"), f.Type) && len(args) <= 4 && !twice(args)
		}
		right = right && len(names) >= 1 && len(names) <= 10 && !twice(names) && !slices.Contains(names, "__typename")
	}
	return right
}

// schemaOfWords reads what schemaPattern holds of.
func schemaOfWords(words []string) (s impl.Schema) {
	take := func() string { w := words[0]; words = words[1:]; return w }
	takes := func(w string) bool {
		if words[0] != w {
			return false
		}
		take()
		return true
	}
	for len(words) > 0 {
		take()
		d := typeDef(take())
		for take(); !takes("}"); {
			f := impl.FieldDef{Name: take()}
			if takes("(") {
				for !takes(")") {
					a := impl.ArgDef{Name: take()}
					take()
					take()
					a.Need = takes("!")
					f.Args = append(f.Args, a)
				}
			}
			take()
			if f.List = takes("["); true {
				f.Type = take()
			}
			if f.List {
				take()
			}
			f.Bang = takes("!")
			d.Fields = append(d.Fields, f)
		}
		s.Types = append(s.Types, d)
	}
	return s
}

func holdAgainstSchemaPattern(t *testing.T, words []string) {
	t.Helper()
	text := strings.Join(words, " ")
	if !schemaPattern.MatchString(strings.TrimLeft(text+" ", " ")) {
		wantNoSchema(t, text, impl.ErrForm)
		return
	}
	s := schemaOfWords(words)
	if rightBySentence(s) {
		wantToldSchema(t, s, text)
		return
	}
	wantNoSchema(t, text, impl.ErrBad)
	wantBadSchema(t, s)
}

func TestShortSchemasByPattern(t *testing.T) {
	check := func(before, after string) func([]string) {
		return func(list []string) {
			words := append(strings.Fields(before), strings.Fields(strings.Join(list, " "))...)
			holdAgainstSchemaPattern(t, append(words, strings.Fields(after)...))
		}
	}
	everyList([]string{"type", "Query", "{", "}", "a : Int"}, 5, check("", ""))
	everyList([]string{"a", ":", "Int", "Query", "[", "]", "!"}, 5, check("type Query {", "}"))
	everyList([]string{"a", ":", "Int", "!", ")", "("}, 5, check("type Query { a (", ": Int }"))
	everyList([]string{"type", "Query", "Int", "__typename", "{ a : A }", "{ __typename : Query }"}, 5, check("type A { Int : Int }", ""))
	everyList([]string{"a : Int", "b : A", "a ( x : Int ) : [ Query ] !", "} type A {", "} type Query {"}, 4, check("type Query { c : Int", "}"))
	everyList([]string{"x : Int", "x : Int !", "y : Int", "Int : Int"}, 5, check("type Query { a (", ") : Int }"))
}

func TestSpoiledSchemasByPattern(t *testing.T) {
	random := rand.New(rand.NewSource(44))
	spoils := []string{"{", "}", "(", ")", "[", "]", ":", "!", "@", "...", "a", "b", "Int", "Query", "type", "__typename", "1", "$v"}
	for range 1500 {
		words := wordsOfSchema(randomSchema(random))
		for range 1 + random.Intn(3) {
			at, other := random.Intn(len(words)), random.Intn(len(words))
			switch random.Intn(4) {
			case 0:
				words = slices.Delete(words, at, at+1)
			case 1:
				words = slices.Insert(words, at, spoils[random.Intn(len(spoils))])
			case 2:
				words[at] = spoils[random.Intn(len(spoils))]
			case 3:
				words[at] = words[other]
			}
			holdAgainstSchemaPattern(t, words)
			if len(words) == 0 {
				break
			}
		}
	}
}

// answersOfSchema is all that the calls of chapter 4 answer to a schema and two names.
func answersOfSchema(s impl.Schema, name, field string) []any {
	at, atCode := impl.TypeAt(s, name)
	f, found := impl.FieldAt(s, name, field)
	text, printed := impl.PrintSchema(s)
	read, code := impl.ParseSchema(text)
	none, noneCode := impl.ParseSchema(text + "}")
	return []any{impl.SchemaOK(s), impl.SameSchema(s, s), impl.SameSchema(s, impl.PlainSchema()), at, atCode, f, found, text, printed, read, code, none, noneCode, impl.PlainSchema()}
}

func TestArgumentsOfSchemaCallsStay(t *testing.T) {
	random := rand.New(rand.NewSource(45))
	schemas := []impl.Schema{{}, querySchema(), schemaOf(slices.Repeat([]impl.TypeDef{typeDef("Query", fieldDef("a", "Int"))}, 9)...), impl.PlainSchema()}
	for range 200 {
		schemas = append(schemas, randomSchema(random))
	}
	for _, s := range schemas {
		// Each list has more behind its end, which is not to be written to either.
		args := []impl.ArgDef{need("x"), may("y"), need("behind")}
		fields := []impl.FieldDef{fieldDef("a", "Int", args[:2]...), fieldDef("b", "Query"), fieldDef("behind", "Int")}
		types := append(slices.Clone(s.Types), typeDef("behind", fields[:2]...))
		s = impl.Schema{Types: types[:len(s.Types)]}
		if len(s.Types) > 0 {
			s.Types[0].Fields = fields[:2]
		}
		ahead, room := tidySchema(impl.Schema{Types: types}), slices.Clone(fields)
		answersOfSchema(s, "Query", "a")
		answersOfSchema(s, "none", "none")
		if !reflect.DeepEqual(tidySchema(impl.Schema{Types: types}), ahead) || !reflect.DeepEqual(fields, room) || !slices.Equal(args, []impl.ArgDef{need("x"), may("y"), need("behind")}) {
			t.Fatal("a call changed its argument, or what is behind it")
		}
	}
}

// wantOwnLists looks at lists alone: texts that stand in the program itself are the same for every answer.
func wantOwnLists(t *testing.T, what string, a, b impl.Schema) {
	t.Helper()
	for _, s := range spansOf(a) {
		for _, o := range spansOf(b) {
			if s.list && o.list && s.meets(o) {
				t.Errorf("%s: two answers share a list", what)
			}
		}
	}
}

func TestAnswersOfSchemaCallsAreNew(t *testing.T) {
	first, second := impl.PlainSchema(), impl.PlainSchema()
	wantOwnMemory(t, "PlainSchema", first)
	wantOwnLists(t, "PlainSchema", first, second)
	for i := range first.Types {
		for k := range first.Types[i].Fields {
			for n := range first.Types[i].Fields[k].Args {
				first.Types[i].Fields[k].Args[n] = may("spoiled")
			}
			first.Types[i].Fields[k] = fieldDef("spoiled", "Int")
		}
		first.Types[i] = typeDef("spoiled")
	}
	if third := impl.PlainSchema(); !reflect.DeepEqual(tidySchema(third), tidySchema(plainTypes())) || !reflect.DeepEqual(tidySchema(second), tidySchema(plainTypes())) {
		t.Error("PlainSchema hangs on what was done to an earlier answer")
	}
	random := rand.New(rand.NewSource(46))
	for range 100 {
		s := randomSchema(random)
		text, _ := impl.PrintSchema(s)
		again, _ := impl.PrintSchema(s)
		wantOwnMemory(t, "PrintSchema", text, s, again)
		read, _ := impl.ParseSchema(text)
		reread, _ := impl.ParseSchema(text)
		wantOwnMemory(t, "ParseSchema", read, text, reread, s)
		for _, d := range s.Types {
			for _, x := range d.Fields {
				f, _ := impl.FieldAt(s, d.Name, x.Name)
				g, _ := impl.FieldAt(s, d.Name, x.Name)
				wantOwnMemory(t, "FieldAt", f, s, g)
			}
		}
	}
}

func TestAlikeSchemasHaveAlikeAnswers(t *testing.T) {
	random := rand.New(rand.NewSource(47))
	schemas := []impl.Schema{{}, querySchema(), impl.PlainSchema(), querySchema(fieldDef("a", "Other"))}
	for range 20 {
		schemas = append(schemas, randomSchema(random))
	}
	for _, s := range schemas {
		ahead := answersOfSchema(s, "Query", "a")
		for _, other := range schemas {
			answersOfSchema(other, "Node", "id")
		}
		if !reflect.DeepEqual(answersOfSchema(s, "Query", "a"), ahead) || !reflect.DeepEqual(answersOfSchema(tidySchema(s), "Query", "a"), ahead) {
			t.Error("answers hang on what was called ahead")
		}
	}
}

func FuzzParseSchema(f *testing.F) {
	for _, seed := range []string{plainText, "", "type Query{a(x:Int!,y:Int):[Query]!b:Int}#end", "type Int { __typename : Int }", sizedText(8, 10, 4)} {
		f.Add(seed)
	}
	f.Fuzz(func(t *testing.T, text string) {
		tokens, lexed := impl.Lex(text)
		_, code := impl.ParseSchema(text)
		if lexed != impl.OK {
			if code != lexed {
				t.Fatal("ParseSchema", code, lexed)
			}
			return
		}
		if len(tokens) < 1000 {
			joined, _ := impl.JoinTokens(tokens)
			holdAgainstSchemaPattern(t, strings.Fields(joined))
		}
	})
}
