package scene_test

import (
	"math"
	"slices"
	"strings"
	"testing"

	"rayhouse/api"
	"rayhouse/scene"
)

// N5

const fullText = `eye 0 1 -5 to 0 0 0 up 0 1 0 wide 1.5 ;
sky 1 65536 0 ;
skin s0 spread 1000 1000 1000 mirror 0 0 0 glass 0 0 0 bend 0.1 ;
skin s1 spread 1 1 1 mirror 2 2 2 glass 3 3 3 bend 1.333 ;
skin s2 spread 0 0 0 mirror 0 0 0 glass 1000 1000 1000 bend 10 ;
lamp 1 2 3 light 0 1 65536 ;
lamp 0 0 0 light 0 0 0 ;
ball 1 2 3 radius 0.5 s0 ;
block -1 -2 -3 to 1 0.25 3 s1 ;
tri 1 2 3 , -4.5 5 6 , 7 -8 9.999 s2 ;
plate 0 -1 0 up 0.001 1 -1 radius 6 s0 ;
tube 0 0 -2 along 0 0 4.125 radius 0.25 s1 ;
ring 5 5 5 up 0 -2 0 radius 2 0.75 s2 ;
solid tube 0 0 -2 along 0 0 4.125 radius 0.25 s1 ;
solid less { both { ball 1 2 3 radius 0.5 block -1 -2 -3 to 1 0.25 3 } either { tube 0 0 -2 along 0 0 4.125 radius 0.25 ball 1 2 3 radius 0.5 } } s0 ;
field 3 2 at -1 0 1 side 0.5 high 0 1.5 -0.02 0.003 -1000 1000 s0 ;
`

func holdPrint(t *testing.T, s api.Scene, want string) {
	t.Helper()
	before := told(s)
	if got, e := scene.Print(s); got != want || e != api.OK {
		t.Errorf("%s:\n%s(%d) is not\n%s", before, got, e, want)
	}
	if told(s) != before {
		t.Error("Print wrote into the scene")
	}
}

func holdNoPrint(t *testing.T, what string, s api.Scene, want api.Errno) {
	t.Helper()
	if got, e := scene.Print(s); got != "" || e != want {
		t.Errorf("%s: %d, not %d: %q", what, e, want, got)
	}
}

// holdBack: Parse of what Print gives is the scene again.
func holdBack(t *testing.T, s api.Scene) {
	t.Helper()
	text, e := scene.Print(s)
	if e != api.OK || len(text) > api.MaxText {
		t.Fatalf("%s: %d, %d bytes", told(s), e, len(text))
	}
	back, e := scene.Parse(text)
	if e != api.OK || told(back) != told(s) {
		t.Errorf("%q: %d:\n%s\nis not\n%s", text, e, told(back), told(s))
	}
}

func TestPrint(t *testing.T) {
	holdPrint(t, full(), fullText)
	holdBack(t, full())
	holdPrint(t, api.Scene{Eye: eye()}, eyeText+"\nsky 0 0 0 ;\n")
	holdBack(t, api.Scene{Eye: eye()})
	holdParse(t, fullText, full())
}

func TestPrintSaysMayFirst(t *testing.T) {
	for _, c := range changes() {
		s := copied(full())
		c.do(&s)
		holdNoPrint(t, c.what, s, c.want)
		// An eye that can't be told is looked at later.
		if s.Eye == eye() {
			s.Eye.At.X = 1.0 / 3
			holdNoPrint(t, c.what+" and a third", s, c.want)
		}
	}
}

func TestPrintOfNumbers(t *testing.T) {
	for text, x := range map[string]float64{
		"0": 0, "1": 1, "-1": -1, "0.5": 0.5, "-0.5": -0.5, "0.05": 0.05, "0.005": 0.005, "-0.001": -0.001, "0.12": 0.12, "0.125": 0.125, "0.1": 0.1, "0.3": 0.3, "0.7": 0.7, "10": 10, "100": 100, "100.01": 100.01, "120.5": 120.5,
		"333.333": 333.333, "999.999": 999.999, "-999.999": -999.999, "1000": 1000, "-1000": -1000, "1.1": 1.1, "2.009": 2.009,
	} {
		s := api.Scene{Eye: eye(), Lamps: []api.Lamp{{At: v(x, -x, 0)}}}
		minus := strings.TrimPrefix("-"+text, "--")
		if x == 0 {
			minus = "0"
			s.Lamps[0].At.Y = 0
		}
		holdPrint(t, s, eyeText+"\nsky 0 0 0 ;\nlamp "+text+" "+minus+" 0 light 0 0 0 ;\n")
		holdBack(t, s)
	}
	// Each number of thousandths comes back.
	for n := -1000000; n <= 1000000; n += 211 {
		s := api.Scene{Eye: eye(), Lamps: []api.Lamp{{At: v(float64(n)/1000, float64(n/100)/1000, float64(n%1000)/1000)}}}
		holdBack(t, s)
	}
}

func TestPrintOfANoughtWithASign(t *testing.T) {
	s := api.Scene{
		Eye: eye(), Skins: []api.Skin{skinOf(0, 0, 0, 1000)},
		Lamps:  []api.Lamp{{At: v(minus0, 0, minus0)}},
		Shapes: []api.Shape{{Kind: api.Ball, A: v(minus0, 1, minus0), B: v(minus0, minus0, minus0), C: v(0, minus0, 0), R: 1, Q: minus0}, {Kind: api.Tube, B: v(minus0, 2, minus0), R: 1}},
		Solids: []api.Solid{{Parts: []api.Part{leaf(api.Shape{Kind: api.Ball, C: v(minus0, 0, 0), R: 1}), leaf(ball()), {Op: api.Both, Left: 0, Right: 1, Shape: api.Shape{R: minus0}}}}},
		Fields: []api.Field{{W: 2, H: 2, At: v(minus0, minus0, 3), Side: 1, High: []int{0, 0, 0, 0}}},
	}
	s.Eye.To.X = minus0
	holdPrint(t, s, eyeText+`
sky 0 0 0 ;
skin s0 spread 0 0 0 mirror 0 0 0 glass 0 0 0 bend 1 ;
lamp 0 0 0 light 0 0 0 ;
ball 0 1 0 radius 1 s0 ;
tube 0 0 0 along 0 2 0 radius 1 s0 ;
solid both { ball 0 0 0 radius 1 ball 1 2 3 radius 0.5 } s0 ;
field 2 2 at 0 0 3 side 1 high 0 0 0 0 s0 ;
`)
}

// places: all the numbers of a full scene that a text tells in thousandths.
func places(s *api.Scene) (l []*float64) {
	add := func(p *api.Vec) { l = append(l, &p.X, &p.Y, &p.Z) }
	add(&s.Eye.At)
	add(&s.Eye.To)
	add(&s.Eye.Up)
	l = append(l, &s.Eye.Wide)
	for i := range s.Lamps {
		add(&s.Lamps[i].At)
	}
	shape := func(x *api.Shape) {
		add(&x.A)
		if x.Kind == api.Block || x.Kind == api.Tri || x.Kind == api.Plate {
			add(&x.B)
		}
		if x.Kind == api.Tri {
			add(&x.C)
		}
		if x.Kind == api.Tube || x.Kind == api.Ring {
			l = append(l, map[bool]*float64{true: &x.B.Z, false: &x.B.Y}[x.B.Z != 0])
		}
		if x.Kind != api.Block && x.Kind != api.Tri {
			l = append(l, &x.R)
		}
		if x.Kind == api.Ring {
			l = append(l, &x.Q)
		}
	}
	for i := range s.Shapes {
		shape(&s.Shapes[i])
	}
	for i := range s.Solids {
		for k := range s.Solids[i].Parts {
			if s.Solids[i].Parts[k].Op == api.Leaf {
				shape(&s.Solids[i].Parts[k].Shape)
			}
		}
	}
	for i := range s.Fields {
		add(&s.Fields[i].At)
		l = append(l, &s.Fields[i].Side)
	}
	return l
}

func TestPrintOfWhatIsNoThousandth(t *testing.T) {
	s := full()
	for i := range places(&s) {
		for _, by := range []float64{0.0005, 1.0 / 3, 1e-9, -0.0001} {
			s := copied(full())
			p := places(&s)[i]
			*p += by
			if scene.May(s) != api.OK {
				continue
			}
			holdNoPrint(t, "no thousandth", s, api.ErrForm)
		}
		for _, toward := range []float64{math.Inf(1), math.Inf(-1)} {
			s := copied(full())
			p := places(&s)[i]
			*p = math.Nextafter(*p, toward)
			if scene.May(s) == api.OK {
				holdNoPrint(t, "next to a thousandth", s, api.ErrForm)
			}
		}
	}
}

func TestPrintOfWhatIsTooFar(t *testing.T) {
	looked := 0
	s := full()
	for i := range places(&s) {
		for _, x := range []float64{1000.001, -1000.001, 1001, 5000, -5000, 1e6, -1e6, math.Nextafter(1000, 2000), -math.Nextafter(1000, 2000)} {
			s := copied(full())
			*places(&s)[i] = x
			if scene.May(s) == api.OK {
				looked++
				holdNoPrint(t, "too far", s, api.ErrForm)
			}
		}
		for _, x := range []float64{1000, -1000} {
			s := copied(full())
			*places(&s)[i] = x
			if scene.May(s) == api.OK {
				holdBack(t, s)
			}
		}
	}
	if looked < 100 {
		t.Errorf("the test tells little: %d", looked)
	}
}

func TestPrintOfFieldsThatAKindDoesNotTell(t *testing.T) {
	more := map[int][]func(*api.Shape){}
	b, c := func(s *api.Shape) { s.B.Z = 1 }, func(s *api.Shape) { s.C.X = -1 }
	r, q := func(s *api.Shape) { s.R = 1 }, func(s *api.Shape) { s.Q = 0.001 }
	tinyC := func(s *api.Shape) { s.C.Y = tiny }
	more[api.Ball] = []func(*api.Shape){b, c, q, tinyC}
	more[api.Block] = []func(*api.Shape){c, r, q, tinyC}
	more[api.Tri] = []func(*api.Shape){r, q}
	more[api.Plate] = []func(*api.Shape){c, q, tinyC}
	more[api.Tube] = []func(*api.Shape){c, q, tinyC}
	more[api.Ring] = []func(*api.Shape){c, tinyC}
	for i, x := range shapes() {
		for _, do := range more[x.Kind] {
			s := full()
			do(&s.Shapes[i])
			holdNoPrint(t, "a shape with something more", s, api.ErrForm)
			x := x
			if x.Kind != api.Ball && x.Kind != api.Block && x.Kind != api.Tube {
				continue
			}
			do(&x)
			s = withParts(leaf(x))
			holdNoPrint(t, "a leaf with something more", s, api.ErrForm)
		}
	}
}

func withParts(parts ...api.Part) api.Scene {
	return api.Scene{Eye: eye(), Skins: []api.Skin{skinOf(0, 0, 0, 1000)}, Solids: []api.Solid{{Parts: parts}}}
}

func TestPrintOfParts(t *testing.T) {
	b, k, u := leaf(ball()), leaf(block()), leaf(tube())
	for _, parts := range [][]api.Part{
		{b}, {u}, {b, k, made(1, 0, 1)}, {b, k, made(2, 0, 1), u, made(3, 2, 3)}, {b, k, u, made(2, 1, 2), made(3, 0, 3)},
		{b, k, made(1, 0, 1), u, made(2, 2, 3), b, made(3, 4, 5)}, {u, b, b, k, made(2, 2, 3), made(3, 1, 4), made(1, 0, 5)},
		{b, b, made(1, 0, 1), b, b, made(2, 3, 4), made(3, 2, 5), b, b, made(1, 7, 8), b, b, made(2, 10, 11), made(3, 9, 12), made(1, 6, 13)},
	} {
		s := withParts(parts...)
		holdBack(t, s)
	}
	with := func(p api.Part, do func(*api.Part)) api.Part {
		do(&p)
		return p
	}
	for what, parts := range map[string][]api.Part{
		"the right one first":                {b, k, made(1, 1, 0)},
		"one part twice":                     {b, made(1, 0, 0)},
		"a part that is in none":             {b, k},
		"a part that is in none, ahead":      {b, k, u, made(1, 1, 2)},
		"a part that is in none, between":    {b, k, u, made(1, 0, 2)},
		"a leaf last":                        {b, k, made(1, 0, 1), u},
		"a part that is in two others":       {b, k, made(1, 0, 1), made(2, 1, 2)},
		"a part in two others, the left one": {b, k, made(1, 0, 1), made(2, 0, 2)},
		"all leaves first":                   {b, k, u, b, made(1, 0, 1), made(1, 2, 3), made(2, 4, 5)},
		"leaves first, one by one":           {b, k, u, made(1, 0, 1), made(2, 3, 2)},
		"right ahead of left":                {u, b, k, made(1, 1, 2), made(3, 3, 0)},
		"left is right's":                    {b, k, made(1, 0, 1), u, made(2, 1, 3)},
		"left ones exchanged":                {b, k, u, made(1, 0, 2), made(2, 1, 3)},
		"right ones exchanged":               {b, k, u, b, made(1, 1, 2), made(2, 4, 3), made(3, 0, 5)},
		"four deep":                          {b, b, made(1, 0, 1), b, made(1, 2, 3), b, made(1, 4, 5), b, made(1, 6, 7)},
		"four deep, to the right":            {b, b, b, b, b, made(1, 3, 4), made(1, 2, 5), made(1, 1, 6), made(1, 0, 7)},
		"a leaf with a left one":             {with(b, func(p *api.Part) { p.Left = 1 })},
		"a leaf with a right one":            {b, with(k, func(p *api.Part) { p.Right = -1 }), made(1, 0, 1)},
		"a leaf with a skin":                 {with(b, func(p *api.Part) { p.Shape.Skin = 1 })},
		"a part with a kind":                 {b, k, with(made(1, 0, 1), func(p *api.Part) { p.Shape.Kind = 1 })},
		"a part with a skin":                 {b, k, with(made(1, 0, 1), func(p *api.Part) { p.Shape.Skin = -9 })},
		"a part with a radius":               {b, k, with(made(1, 0, 1), func(p *api.Part) { p.Shape.R = 1 })},
		"a part with what is no number":      {b, k, with(made(1, 0, 1), func(p *api.Part) { p.Shape.C.Z = none })},
		"a part with a shape, in another":    {b, k, with(made(1, 0, 1), func(p *api.Part) { p.Shape = ball() }), u, made(2, 2, 3)},
	} {
		s := withParts(parts...)
		if e := scene.May(s); e != api.OK {
			t.Fatalf("%s: %d", what, e)
		}
		holdNoPrint(t, what, s, api.ErrForm)
		two := withParts(b)
		two.Solids = append(two.Solids, s.Solids[0])
		holdNoPrint(t, what+", second", two, api.ErrForm)
	}
	// As many parts as may be, each of the two ahead of it: what they are made of is not gone through.
	wide := []api.Part{b}
	for i := range api.MaxParts - 1 {
		wide = append(wide, made(api.Either, i, i))
	}
	holdNoPrint(t, "parts in one another", withParts(wide...), api.ErrForm)
}

// As many of all as may be, with the longest numbers: what is printed isn't too long to be read.
func TestPrintOfAsMuchAsMayBe(t *testing.T) {
	s := full()
	far := v(-999.999, -999.998, -999.997)
	eight := body()
	s.Shapes = slices.Repeat([]api.Shape{{Kind: api.Tri, A: far, B: far, C: far, Skin: 15}}, api.MaxShapes)
	s.Skins = slices.Repeat([]api.Skin{skinOf(333, 333, 334, 9999)}, api.MaxSkins)
	s.Lamps = slices.Repeat([]api.Lamp{{At: far, Light: [3]int{65536, 65535, 65534}}}, api.MaxLamps)
	box := leaf(api.Shape{Kind: api.Tube, A: far, B: v(0, 0, -999.999), R: 999.999})
	eight.Parts = []api.Part{box, box, made(2, 0, 1), box, box, made(2, 3, 4), made(2, 2, 5), box, box, made(2, 7, 8), box, box, made(2, 10, 11), made(2, 9, 12), made(2, 6, 13)}
	s.Solids = slices.Repeat([]api.Solid{eight}, api.MaxSolids)
	s.Fields = slices.Repeat([]api.Field{{W: 8, H: 8, At: far, Side: 0.001, High: slices.Repeat([]int{-999999}, 64), Skin: 10}}, api.MaxFields)
	holdBack(t, s)
}
