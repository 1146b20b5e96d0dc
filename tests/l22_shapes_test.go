package tests

import (
	"math"
	"math/rand"
	"slices"
	"strconv"
	"strings"
	"sync"
	"testing"

	"loop.example/excavation/impl"
)

// point returns a point.
func point(x, y int) impl.Point {
	return impl.Point{X: x, Y: y}
}

// pointsOf returns the points of the words of a text, which are two numbers each.
func pointsOf(text string) []impl.Point {
	var list []impl.Point
	for _, word := range strings.Fields(text) {
		first, second, _ := strings.Cut(word, ",")
		x, wrongX := strconv.Atoi(first)
		y, wrongY := strconv.Atoi(second)
		if wrongX != nil || wrongY != nil {
			panic("no point: " + word)
		}
		list = append(list, point(x, y))
	}
	return list
}

// grid returns all points with coordinates from low to high.
func grid(low, high impl.Point) []impl.Point {
	var list []impl.Point
	for x := low.X; x <= high.X; x++ {
		for y := low.Y; y <= high.Y; y++ {
			list = append(list, point(x, y))
		}
	}
	return list
}

// inGrid reports whether the coordinates of a point are in range.
func inGrid(p impl.Point) bool {
	return p.X >= 0 && p.X <= 99 && p.Y >= 0 && p.Y <= 99
}

// movedPoints returns points in new memory that are moved.
func movedPoints(list []impl.Point, x, y int) []impl.Point {
	var other []impl.Point
	for _, p := range list {
		other = append(other, point(p.X+x, p.Y+y))
	}
	return other
}

// beginningAt returns corners in new memory, beginning with the one at a place.
func beginningAt(list []impl.Point, i int) []impl.Point {
	return slices.Concat(list[i:], list[:i])
}

// backwards returns corners in new memory, in the other direction.
func backwards(list []impl.Point) []impl.Point {
	other := slices.Clone(list)
	slices.Reverse(other)
	return other
}

// everyNth returns corners in new memory, each time n places further, as many as there are.
func everyNth(list []impl.Point, n int) []impl.Point {
	var other []impl.Point
	for i := range list {
		other = append(other, list[i*n%len(list)])
	}
	return other
}

// twice returns twice the area of a triangle, less than 0 if it is bent to the right.
func twice(a, b, c impl.Point) int {
	return a.X*b.Y - b.X*a.Y + b.X*c.Y - c.X*b.Y + c.X*a.Y - a.X*c.Y
}

// abs returns a number without its sign.
func abs(n int) int {
	return max(n, -n)
}

// comparePoints tells the order of points from left to right, and upwards if both are above each other.
func comparePoints(p, q impl.Point) int {
	if p.X != q.X {
		return p.X - q.X
	}
	return p.Y - q.Y
}

// hullSide returns the corners of the lower side of what holds sorted points together, without the last one.
func hullSide(sorted []impl.Point) []impl.Point {
	var side []impl.Point
	for _, p := range sorted {
		for len(side) > 1 && twice(side[len(side)-2], side[len(side)-1], p) <= 0 {
			side = side[:len(side)-1]
		}
		side = append(side, p)
	}
	return side[:len(side)-1]
}

// hullOf returns the corners of the least shape that has all points, which may be too many for a shape, or too few.
func hullOf(list []impl.Point) []impl.Point {
	sorted := slices.Compact(slices.SortedFunc(slices.Values(list), comparePoints))
	if len(sorted) < 2 {
		return sorted
	}
	return slices.Concat(hullSide(sorted), hullSide(backwards(sorted)))
}

// expectedShape reports whether corners are a valid shape, found in another way: they are what holds them together.
func expectedShape(list []impl.Point) bool {
	if len(list) < 3 || len(list) > 8 || slices.ContainsFunc(list, func(p impl.Point) bool { return !inGrid(p) }) {
		return false
	}
	hull := hullOf(list)
	first := slices.Index(list, hull[0])
	return slices.Equal(hull, beginningAt(list, first))
}

// expectedArea returns twice the area of a shape, found in another way: what is below its sides is added and taken off.
func expectedArea(list []impl.Point) int {
	area := 0
	for i, p := range list {
		q := list[(i+1)%len(list)]
		area += (p.X - q.X) * (p.Y + q.Y)
	}
	return area
}

// gcd returns the greatest number that divides both, one of which is not 0.
func gcd(a, b int) int {
	for b != 0 {
		a, b = b, a%b
	}
	return a
}

// onSides returns all points with whole coordinates on the sides of a shape, each one once.
func onSides(list []impl.Point) []impl.Point {
	var points []impl.Point
	for i, p := range list {
		q := list[(i+1)%len(list)]
		parts := gcd(abs(q.X-p.X), abs(q.Y-p.Y))
		for part := range parts {
			points = append(points, point(p.X+(q.X-p.X)/parts*part, p.Y+(q.Y-p.Y)/parts*part))
		}
	}
	return points
}

// rowOfSide returns the least and the greatest whole x in which the row y can be for what a side leaves of it.
func rowOfSide(p, q impl.Point, y int) (int, int) {
	if p.Y == q.Y {
		return min(p.X, q.X), max(p.X, q.X)
	}
	if p.Y > q.Y {
		p, q = q, p
	}
	// Both are at least 0, so that the division rounds down.
	over, height := p.X*(q.Y-y)+q.X*(y-p.Y), q.Y-p.Y
	return (over + height - 1) / height, over / height
}

// expectedPoints returns the points of a shape, found in another way: in each row, from one of its sides to the other one.
func expectedPoints(list []impl.Point) map[impl.Point]bool {
	points := map[impl.Point]bool{}
	for y := range impl.GridMax + 1 {
		low, high := math.MaxInt, math.MinInt
		for i, p := range list {
			q := list[(i+1)%len(list)]
			if y >= min(p.Y, q.Y) && y <= max(p.Y, q.Y) {
				first, last := rowOfSide(p, q, y)
				low, high = min(low, first), max(high, last)
			}
		}
		for x := low; x <= high; x++ {
			points[point(x, y)] = true
		}
	}
	return points
}

// expectedBox returns the least and the greatest coordinates of corners, found in another way: by sorting them.
func expectedBox(list []impl.Point) (impl.Point, impl.Point) {
	var xs, ys []int
	for _, p := range list {
		xs, ys = append(xs, p.X), append(ys, p.Y)
	}
	slices.Sort(xs)
	slices.Sort(ys)
	return point(xs[0], ys[0]), point(xs[len(xs)-1], ys[len(ys)-1])
}

// roundCorners returns the corners of a round form in the range, of which there are more than a shape has.
var roundCorners = sync.OnceValue(func() []impl.Point {
	return hullOf(slices.DeleteFunc(grid(point(0, 0), point(99, 99)), func(p impl.Point) bool {
		x, y := 2*p.X-99, 2*p.Y-99
		return x*x+y*y > 99*99
	}))
})

// octagon returns a least shape with CornerMax corners.
func octagon() []impl.Point {
	return pointsOf("1,0 2,0 3,1 3,2 2,3 1,3 0,2 0,1")
}

// shapeExample has what is known of a shape.
type shapeExample struct {
	corners   string
	area      int
	count     int
	low, high impl.Point
}

// shapeExamples returns valid shapes, written out.
func shapeExamples() map[string]shapeExample {
	return map[string]shapeExample{
		"a triangle":                    {"0,0 4,0 0,4", 16, 15, point(0, 0), point(4, 4)},
		"the least triangle":            {"0,0 1,0 0,1", 1, 3, point(0, 0), point(1, 1)},
		"the least one at the end":      {"98,98 99,98 99,99", 1, 3, point(98, 98), point(99, 99)},
		"the least one at the right":    {"99,0 99,1 98,0", 1, 3, point(98, 0), point(99, 1)},
		"the least one at the top":      {"0,99 0,98 1,99", 1, 3, point(0, 98), point(1, 99)},
		"a triangle around a point":     {"0,0 2,1 1,2", 3, 4, point(0, 0), point(2, 2)},
		"the largest triangle":          {"0,0 99,0 0,99", 9801, 5050, point(0, 0), point(99, 99)},
		"a thin triangle":               {"0,0 98,97 99,98", 1, 3, point(0, 0), point(99, 98)},
		"a flat triangle":               {"0,50 99,50 50,51", 99, 101, point(0, 50), point(99, 51)},
		"a square":                      {"0,0 1,0 1,1 0,1", 2, 4, point(0, 0), point(1, 1)},
		"the largest square":            {"0,0 99,0 99,99 0,99", 19602, 10000, point(0, 0), point(99, 99)},
		"a square on its corner":        {"50,49 51,50 50,51 49,50", 4, 5, point(49, 49), point(51, 51)},
		"a kite":                        {"5,0 6,3 5,9 4,3", 18, 12, point(4, 0), point(6, 9)},
		"a strip":                       {"7,99 7,0 8,0 8,99", 198, 200, point(7, 0), point(8, 99)},
		"five corners":                  {"0,0 4,0 5,3 2,5 0,4", 39, 26, point(0, 0), point(5, 5)},
		"six corners":                   {"1,0 2,0 2,1 1,2 0,2 0,1", 6, 7, point(0, 0), point(2, 2)},
		"seven corners":                 {"0,0 1,1 2,4 3,9 4,16 5,25 6,36", 70, 42, point(0, 0), point(6, 36)},
		"eight corners":                 {"1,0 2,0 3,1 3,2 2,3 1,3 0,2 0,1", 14, 12, point(0, 0), point(3, 3)},
		"eight corners at the end":      {"97,96 98,96 99,97 99,98 98,99 97,99 96,98 96,97", 14, 12, point(96, 96), point(99, 99)},
		"eight corners on all sides":    {"30,0 69,0 99,30 99,69 69,99 30,99 0,69 0,30", 16002, 8140, point(0, 0), point(99, 99)},
		"the last corner near the line": {"0,0 99,0 99,99 49,50", 9900, 5051, point(0, 0), point(99, 99)},
	}
}

// randomShapes returns as many shapes of each number of corners, in boxes of different sizes and places.
func randomShapes(random *rand.Rand, each int) [][]impl.Point {
	var shapes [][]impl.Point
	counts := map[int]int{}
	for len(shapes) < 6*each {
		width, height := 1+random.Intn(99), 1+random.Intn(99)
		if random.Intn(2) == 0 {
			width, height = 1+random.Intn(6), 1+random.Intn(6)
		}
		x, y := random.Intn(100-width), random.Intn(100-height)
		var points []impl.Point
		for range 3 + random.Intn(14) {
			points = append(points, point(x+random.Intn(width+1), y+random.Intn(height+1)))
		}
		hull := hullOf(points)
		if n := len(hull); n >= 3 && n <= 8 && counts[n] < each {
			counts[n]++
			shapes = append(shapes, beginningAt(hull, random.Intn(n)))
		}
	}
	return shapes
}

// smallShapes returns all shapes with coordinates up to 2, beginning with their first corner from the left.
func smallShapes() [][]impl.Point {
	var shapes [][]impl.Point
	points := grid(point(0, 0), point(2, 2))
	for set := range 1 << len(points) {
		var corners []impl.Point
		for i, p := range points {
			if set>>i&1 == 1 {
				corners = append(corners, p)
			}
		}
		if hull := hullOf(corners); len(hull) >= 3 && len(hull) == len(corners) {
			shapes = append(shapes, hull)
		}
	}
	return shapes
}

// validShapes returns valid shapes of each number of corners. They are the same in each run.
var validShapes = sync.OnceValue(func() [][]impl.Point {
	shapes := randomShapes(rand.New(rand.NewSource(22)), 30)
	for i, shape := range smallShapes() {
		x, y := []int{0, 97, 0, 97, 40}[i%5], []int{0, 97, 97, 0, 60}[i%5]
		shapes = append(shapes, movedPoints(shape, x, y))
	}
	for _, e := range shapeExamples() {
		corners := pointsOf(e.corners)
		for i := range corners {
			shapes = append(shapes, beginningAt(corners, i))
		}
	}
	for n := 3; n <= impl.CornerMax; n++ {
		shapes = append(shapes, roundCorners()[:n], roundCorners()[7:7+n])
	}
	slices.SortFunc(shapes, func(a, b []impl.Point) int { return slices.CompareFunc(a, b, comparePoints) })
	return shapes
})

// outOfGrid returns coordinates that are not in range.
func outOfGrid() []int {
	return []int{-1, 100, -100, 101, 199, 1 << 32, 1 << 58, -1 << 58, 1<<62 + 1, math.MinInt, math.MinInt + 1, math.MaxInt}
}

// invalidShapes returns invalid shapes, written out.
func invalidShapes() map[string]string {
	return map[string]string{
		"no points":                        "",
		"one point":                        "5,5",
		"two points":                       "5,5 9,5",
		"the same point twice":             "5,5 5,5",
		"the same point three times":       "5,5 5,5 5,5",
		"the same point eight times":       "0,0 0,0 0,0 0,0 0,0 0,0 0,0 0,0",
		"a triangle to the right":          "0,0 0,4 4,0",
		"a square to the right":            "0,0 0,1 1,1 1,0",
		"eight corners to the right":       "1,0 0,1 0,2 1,3 2,3 3,2 3,1 2,0",
		"three points in a row":            "0,0 1,0 2,0",
		"three points above each other":    "3,1 3,5 3,9",
		"three points on a slanting line":  "0,0 1,2 2,4",
		"three points, there and back":     "0,0 4,4 2,2",
		"four points in a row":             "0,7 1,7 2,7 3,7",
		"four points to and fro":           "0,7 2,7 1,7 3,7",
		"a corner on the first side":       "0,0 2,0 4,0 0,4",
		"a corner on the second side":      "0,0 4,0 2,2 0,4",
		"a corner on the last side":        "0,0 4,0 0,4 0,2",
		"a corner on a side of a square":   "0,0 9,0 9,9 5,9 0,9",
		"a corner on the line of a side":   "0,0 4,0 4,4 2,0",
		"a corner behind a side":           "0,0 2,0 4,0 4,4",
		"the first corner twice":           "0,0 0,0 4,0 0,4",
		"the first corner as the last one": "0,0 4,0 0,4 0,0",
		"the second corner twice":          "0,0 4,0 4,0 0,4",
		"the last corner twice":            "0,0 4,0 0,4 0,4",
		"a corner again further on":        "0,0 4,0 4,4 0,0 0,4",
		"opposite corners twice":           "0,0 4,0 4,4 4,0 0,4",
		"a triangle twice":                 "0,0 4,0 0,4 0,0 4,0 0,4",
		"a square twice":                   "0,0 1,0 1,1 0,1 0,0 1,0 1,1 0,1",
		"a triangle inside, too":           "0,0 9,0 0,9 1,1 3,1 1,3",
		"a triangle and a further one":     "0,0 9,0 0,9 0,0 8,0 0,8",
		"a square in two turns":            "0,0 9,0 9,9 0,9 1,1 8,1 8,8 1,8",
		"a star with five corners":         "0,4 9,4 2,9 5,0 7,9",
		"a bow":                            "0,0 4,4 4,0 0,4",
		"a bow to the other side":          "0,0 4,0 0,4 4,4",
		"a dent":                           "0,0 4,0 1,1 0,4",
		"a dent at the first corner":       "1,1 0,4 0,0 4,0",
		"a dent at the last corner":        "4,0 9,9 0,9 4,6",
		"a flat dent":                      "0,0 99,0 50,49 0,99",
		"a bend to the right":              "0,0 4,0 4,4 2,3 0,4",
		"several dents":                    "0,0 2,1 4,0 3,2 4,4 2,3 0,4 1,2",
		"nine corners":                     "0,0 1,1 2,4 3,9 4,16 5,25 6,36 7,49 8,64",
		"ten corners":                      "0,0 1,1 2,4 3,9 4,16 5,25 6,36 7,49 8,64 9,81",
		"a point on the left of the range": "-1,0 4,0 0,4",
		"a point below the range":          "0,0 4,-1 0,4",
		"a point right of the range":       "0,0 100,0 0,4",
		"a point above the range":          "0,0 4,0 0,100",
		"all points out of the range":      "100,100 104,100 100,104",
		"all points left of the range":     "-5,1 -1,1 -1,5",
	}
}

// invalidCorners returns invalid shapes: those that are written out, valid ones with a coordinate that is not in range,
// with a corner again, and in the other direction, and lines that go around several times, or have too many corners.
func invalidCorners() [][]impl.Point {
	lists := [][]impl.Point{nil, {}}
	for _, text := range invalidShapes() {
		lists = append(lists, pointsOf(text))
	}
	for _, shape := range [][]impl.Point{pointsOf("0,0 4,0 0,4"), pointsOf("0,0 99,0 99,99 0,99"), octagon()} {
		for i := range shape {
			for _, n := range outOfGrid() {
				left, up := slices.Clone(shape), slices.Clone(shape)
				left[i].X, up[i].Y = n, n
				lists = append(lists, left, up)
			}
			for k := range len(shape) + 1 {
				lists = append(lists, slices.Insert(slices.Clone(shape), k, shape[i]))
			}
		}
		lists = append(lists, backwards(shape))
		for _, n := range outOfGrid() {
			lists = append(lists, movedPoints(shape, n, 0), movedPoints(shape, 0, n), movedPoints(shape, n, n))
		}
	}
	for n := 5; n <= impl.CornerMax; n++ {
		for step := range n - 2 {
			lists = append(lists, everyNth(roundCorners()[:n], step+2))
		}
	}
	for n := impl.CornerMax + 1; n <= len(roundCorners()); n++ {
		lists = append(lists, roundCorners()[:n], backwards(roundCorners()[:n]))
	}
	// Products of these wrap around to those of a valid shape.
	return append(lists, pointsOf("0,0 4294967296,0 0,4294967296"), pointsOf("0,0 4294967300,0 0,4294967300"),
		pointsOf("0,0 64,0 288230376151711808,64"), slices.Repeat(octagon(), 20))
}

// pointsNear returns points of the range: the corners of a shape and the points on its sides, all around these, further
// ones of its box, and some of all.
func pointsNear(random *rand.Rand, shape []impl.Point) []impl.Point {
	points := onSides(shape)
	for _, p := range points {
		points = append(points, grid(point(p.X-1, p.Y-1), point(p.X+1, p.Y+1))...)
	}
	low, high := expectedBox(shape)
	for range 30 {
		points = append(points, point(random.Intn(100), random.Intn(100)),
			point(low.X+random.Intn(high.X-low.X+1), low.Y+random.Intn(high.Y-low.Y+1)))
	}
	return slices.DeleteFunc(points, func(p impl.Point) bool { return !inGrid(p) })
}

// boxOf returns the box of a valid shape, for which ShapeBox must not fail.
func boxOf(t *testing.T, shape []impl.Point) (impl.Point, impl.Point) {
	t.Helper()
	low, high, ok := impl.ShapeBox(shape)
	if !ok {
		t.Fatalf("ShapeBox(%v) fails", shape)
	}
	return low, high
}

// movesOf returns numbers by which shapes with coordinates from low to high can be moved, or cannot.
func movesOf(random *rand.Rand, low, high int) []int {
	return []int{0, 1, -1, -low, -low - 1, 99 - high, 100 - high, 98, -98, 99, -99, random.Intn(199) - 99}
}

func TestShapeConstants(t *testing.T) {
	if impl.GridMax != 99 || impl.CornerMax != 8 {
		t.Errorf("GridMax and CornerMax are %d and %d", impl.GridMax, impl.CornerMax)
	}
}

func TestShapeExamples(t *testing.T) {
	for name, e := range shapeExamples() {
		corners := pointsOf(e.corners)
		for i := range corners {
			shape := beginningAt(corners, i)
			if !impl.ShapeValid(shape) {
				t.Errorf("%s: ShapeValid(%v) is false", name, shape)
			}
			if area := impl.ShapeArea(shape); area != e.area {
				t.Errorf("%s: ShapeArea(%v) is %d, not %d", name, shape, area, e.area)
			}
			if count := impl.ShapeCount(shape); count != e.count {
				t.Errorf("%s: ShapeCount(%v) is %d, not %d", name, shape, count, e.count)
			}
			if low, high := boxOf(t, shape); low != e.low || high != e.high {
				t.Errorf("%s: ShapeBox(%v) returned %v, %v", name, shape, low, high)
			}
		}
	}
}

// checkNoShape checks what all functions return for an invalid shape, also for its corners and for no move.
func checkNoShape(t *testing.T, name string, list []impl.Point) {
	t.Helper()
	if impl.ShapeValid(list) {
		t.Errorf("%s: ShapeValid(%v) is true", name, list)
	}
	if area, count := impl.ShapeArea(list), impl.ShapeCount(list); area != -1 || count != -1 {
		t.Errorf("%s: ShapeArea and ShapeCount of %v are %d and %d", name, list, area, count)
	}
	for _, p := range append(slices.Clone(list), point(0, 0), point(1, 1), point(2, 2), point(99, 99), point(50, 50)) {
		if impl.ShapeHas(list, p) {
			t.Errorf("%s: ShapeHas(%v, %v) is true", name, list, p)
		}
	}
	for _, x := range []int{0, 1, -1, 5, -96, 99, -99} {
		for _, y := range []int{0, 1, -1, 5, -96, 99, -99} {
			if got, ok := impl.ShapeMove(list, x, y); ok || len(got) != 0 {
				t.Errorf("%s: ShapeMove(%v, %d, %d) returned %v, %v", name, list, x, y, got, ok)
			}
		}
	}
	if low, high, ok := impl.ShapeBox(list); ok || low != point(0, 0) || high != point(0, 0) {
		t.Errorf("%s: ShapeBox(%v) returned %v, %v, %v", name, list, low, high, ok)
	}
}

func TestInvalidShapes(t *testing.T) {
	for name, text := range invalidShapes() {
		list := pointsOf(text)
		for i := range max(len(list), 1) {
			checkNoShape(t, name, beginningAt(list, i))
		}
	}
	for _, list := range invalidCorners() {
		checkNoShape(t, "one of many", list)
	}
}

// Exactly the lists whose corners are what holds them together are shapes.
func TestShapeValid(t *testing.T) {
	random := rand.New(rand.NewSource(220))
	valid, not := 0, 0
	for _, shape := range validShapes() {
		if !expectedShape(shape) || !impl.ShapeValid(shape) {
			t.Fatalf("ShapeValid(%v) is false", shape)
		}
		for range 10 {
			other := slices.Clone(shape)
			i := random.Intn(len(other))
			other[i] = point(other[i].X+random.Intn(5)-2, other[i].Y+random.Intn(5)-2)
			want := expectedShape(other)
			if impl.ShapeValid(other) != want {
				t.Fatalf("ShapeValid(%v) is %v", other, !want)
			}
			if want {
				valid++
			} else {
				not++
			}
		}
	}
	if valid < 1000 || not < 1000 {
		t.Errorf("with a corner moved, only %d are valid, and %d are not", valid, not)
	}
}

// All lists of up to five points with coordinates up to 2.
func TestShapeValidOfAllShortLists(t *testing.T) {
	valid := 0
	for _, list := range listsUpTo(grid(point(0, 0), point(2, 2)), 5) {
		want := expectedShape(list)
		if impl.ShapeValid(list) != want {
			t.Fatalf("ShapeValid(%v) is %v", list, !want)
		}
		if want {
			valid++
		}
	}
	if valid < 400 {
		t.Errorf("only %d lists are shapes", valid)
	}
}

// Of all orders of corners, exactly those are valid that begin with another corner, whatever else they go around.
func TestShapeValidOfAllOrders(t *testing.T) {
	for _, shape := range [][]impl.Point{
		pointsOf("0,0 1,0 0,1"), pointsOf("0,0 99,0 99,99 0,99"), roundCorners()[:5], pointsOf("1,0 2,0 2,1 1,2 0,2 0,1"),
		roundCorners()[3:10], octagon(),
	} {
		valid := 0
		for _, order := range permutations(numbersOf(len(shape), 0, 1)) {
			var list []impl.Point
			for _, i := range order {
				list = append(list, shape[i])
			}
			want := slices.Equal(shape, beginningAt(list, slices.Index(order, 0)))
			if impl.ShapeValid(list) != want {
				t.Fatalf("ShapeValid(%v) is %v", list, !want)
			}
			if want {
				valid++
			}
		}
		if valid != len(shape) {
			t.Errorf("%d orders of %v are valid", valid, shape)
		}
	}
}

func TestShapeValidOfCornerCounts(t *testing.T) {
	corners := roundCorners()
	if len(corners) < 20 {
		t.Fatalf("there are only %d corners", len(corners))
	}
	for n := range len(corners) + 1 {
		for _, list := range [][]impl.Point{corners[:n], corners[len(corners)-n:]} {
			if got := impl.ShapeValid(list); got != (n >= 3 && n <= 8) {
				t.Errorf("ShapeValid of %d corners is %v", n, got)
			}
		}
	}
}

// Promise 96: the area is greater than 0, and the same if the shape begins with another corner.
func TestShapeArea(t *testing.T) {
	for _, shape := range validShapes() {
		want := expectedArea(shape)
		if want <= 0 {
			t.Fatalf("%v has the area %d", shape, want)
		}
		for i := range shape {
			if got := impl.ShapeArea(beginningAt(shape, i)); got != want {
				t.Fatalf("ShapeArea(%v) is %d, not %d", beginningAt(shape, i), got, want)
			}
		}
	}
}

// Promise 97: all corners are in the box, some of them on each side, and the area is at most twice that of the box.
func TestShapeBox(t *testing.T) {
	for _, shape := range validShapes() {
		low, high := boxOf(t, shape)
		if wantLow, wantHigh := expectedBox(shape); low != wantLow || high != wantHigh {
			t.Fatalf("ShapeBox(%v) returned %v, %v", shape, low, high)
		}
		sides := make([]int, 4)
		for _, p := range shape {
			if p.X < low.X || p.X > high.X || p.Y < low.Y || p.Y > high.Y {
				t.Fatalf("ShapeBox(%v) returned %v, %v without %v", shape, low, high, p)
			}
			for i, at := range []bool{p.X == low.X, p.X == high.X, p.Y == low.Y, p.Y == high.Y} {
				if at {
					sides[i]++
				}
			}
		}
		if slices.Contains(sides, 0) {
			t.Fatalf("ShapeBox(%v) returned %v, %v, but no corner is on one of its sides", shape, low, high)
		}
		if area := impl.ShapeArea(shape); area > 2*(high.X-low.X)*(high.Y-low.Y) {
			t.Fatalf("ShapeArea(%v) is %d, with the box %v, %v", shape, area, low, high)
		}
	}
}

// hasExample has points that are in a shape and points of the range that are not.
type hasExample struct {
	corners string
	in, out string
}

// hasExamples returns points in shapes and outside of them, written out.
func hasExamples() map[string]hasExample {
	return map[string]hasExample{
		"a triangle": {"0,0 4,0 0,4",
			"0,0 4,0 0,4 1,0 2,0 3,0 3,1 2,2 1,3 0,3 0,2 0,1 1,1 1,2 2,1",
			"5,0 4,1 3,2 2,3 1,4 0,5 4,4 3,3 99,0 0,99 99,99"},
		"the least triangle at the end": {"98,98 99,98 99,99",
			"98,98 99,98 99,99",
			"98,99 97,98 97,97 99,97 98,97 0,0"},
		"a triangle around a point": {"0,0 2,1 1,2",
			"0,0 2,1 1,2 1,1",
			"1,0 0,1 2,0 0,2 2,2 3,1 1,3 3,3"},
		"a thin triangle": {"0,0 98,97 99,98",
			"0,0 98,97 99,98",
			"1,1 1,0 50,49 49,48 97,96 97,97 98,98 99,97 99,99 98,96 97,95"},
		"a slanting triangle": {"10,10 40,20 30,50",
			"10,10 40,20 30,50 12,11 13,11 16,12 37,19 37,29 11,12 20,30 26,26 25,40",
			"9,10 10,9 10,11 41,20 40,21 40,19 30,51 29,50 31,50 12,10 13,10 38,29 20,31 25,41 10,50 40,50 40,10"},
		"the largest square": {"0,0 99,0 99,99 0,99",
			"0,0 99,0 99,99 0,99 50,0 99,50 50,99 0,50 50,50 1,98",
			""},
		"a square": {"10,10 20,10 20,20 10,20",
			"10,10 20,10 20,20 10,20 15,10 20,15 15,20 10,15 15,15 11,11 19,19",
			"9,9 9,10 10,9 21,10 20,9 21,21 20,21 21,20 9,20 10,21 15,9 15,21 9,15 21,15 0,15 15,0 99,15 15,99"},
		"a square on its corner": {"50,49 51,50 50,51 49,50",
			"50,49 51,50 50,51 49,50 50,50",
			"49,49 51,51 49,51 51,49 50,48 52,50 50,52 48,50"},
		"eight corners": {"1,0 2,0 3,1 3,2 2,3 1,3 0,2 0,1",
			"1,0 2,0 3,1 3,2 2,3 1,3 0,2 0,1 1,1 2,1 1,2 2,2",
			"0,0 3,0 3,3 0,3 4,1 4,2 1,4 2,4 4,4"},
	}
}

func TestShapeHasExamples(t *testing.T) {
	for name, e := range hasExamples() {
		corners := pointsOf(e.corners)
		for i := range corners {
			shape := beginningAt(corners, i)
			for _, p := range pointsOf(e.in) {
				if !impl.ShapeHas(shape, p) {
					t.Errorf("%s: ShapeHas(%v, %v) is false", name, shape, p)
				}
			}
			for _, p := range pointsOf(e.out) {
				if impl.ShapeHas(shape, p) {
					t.Errorf("%s: ShapeHas(%v, %v) is true", name, shape, p)
				}
			}
		}
	}
}

// Promise 104: all points of the range, and how many of them are in the shape, with the area and those on its sides.
func TestShapeHasAllPoints(t *testing.T) {
	all := grid(point(0, 0), point(99, 99))
	for _, shape := range validShapes() {
		want, count := expectedPoints(shape), 0
		for _, p := range all {
			has := impl.ShapeHas(shape, p)
			if has != want[p] {
				t.Fatalf("ShapeHas(%v, %v) is %v", shape, p, has)
			}
			if has {
				count++
			}
		}
		if got := impl.ShapeCount(shape); got != count {
			t.Fatalf("ShapeCount(%v) is %d, but %d points are in it", shape, got, count)
		}
		if area := impl.ShapeArea(shape); 2*count != area+len(onSides(shape))+2 {
			t.Fatalf("ShapeArea(%v) is %d, with %d points, %d of them on its sides", shape, area, count, len(onSides(shape)))
		}
	}
}

// Promise 98: all corners are in the shape, and so are all other points on its sides.
func TestShapeHasItsCorners(t *testing.T) {
	for _, shape := range validShapes() {
		for _, p := range slices.Concat(shape, onSides(shape)) {
			if !impl.ShapeHas(shape, p) {
				t.Fatalf("ShapeHas(%v, %v) is false", shape, p)
			}
		}
	}
}

// Promises 99 and 100: what is halfway from a point of a shape to any corner is in the shape, and the point is in the box.
func TestShapeHasPointsHalfway(t *testing.T) {
	random := rand.New(rand.NewSource(221))
	halfway := 0
	for _, shape := range validShapes() {
		low, high := boxOf(t, shape)
		for _, p := range pointsNear(random, shape) {
			if !impl.ShapeHas(shape, p) {
				continue
			}
			if p.X < low.X || p.X > high.X || p.Y < low.Y || p.Y > high.Y {
				t.Fatalf("ShapeHas(%v, %v) is true, with the box %v, %v", shape, p, low, high)
			}
			for _, corner := range shape {
				middle := point((p.X+corner.X)/2, (p.Y+corner.Y)/2)
				if (p.X+corner.X)%2 != 0 || (p.Y+corner.Y)%2 != 0 {
					continue
				}
				halfway++
				if !impl.ShapeHas(shape, middle) {
					t.Fatalf("ShapeHas(%v, %v) is false, though it has %v", shape, middle, p)
				}
			}
		}
	}
	if halfway < 10000 {
		t.Errorf("only %d points are halfway", halfway)
	}
}

// Promise 101: a point is in a shape exactly if its triangles with all sides are together as large as the shape.
func TestShapeHasByTriangles(t *testing.T) {
	random := rand.New(rand.NewSource(222))
	in, out := 0, 0
	for _, shape := range validShapes() {
		area := impl.ShapeArea(shape)
		for _, p := range pointsNear(random, shape) {
			sum := 0
			for i, corner := range shape {
				sum += abs(twice(p, corner, shape[(i+1)%len(shape)]))
			}
			has := impl.ShapeHas(shape, p)
			if has != (sum == area) {
				t.Fatalf("ShapeHas(%v, %v) is %v, with triangles of %d and the area %d", shape, p, has, sum, area)
			}
			if has {
				in++
			} else {
				out++
			}
		}
	}
	if in < 10000 || out < 10000 {
		t.Errorf("only %d points are in a shape, and %d are not", in, out)
	}
}

// Points out of range are in no shape, even if products wrap around to those of a point in the shape.
func TestShapeHasNoPointsOutOfRange(t *testing.T) {
	shapes := append(slices.Clone(validShapes()), pointsOf("0,0 64,0 64,64 0,64"), pointsOf("0,0 32,0 32,64"))
	for _, shape := range shapes {
		for _, n := range append(outOfGrid(), 1<<58+32, 1<<59+1, 1<<63-1<<58, 16-1<<58, -2) {
			for _, m := range []int{0, 1, 16, 32, 50, 99, n} {
				for _, p := range []impl.Point{point(n, m), point(m, n)} {
					if impl.ShapeHas(shape, p) {
						t.Fatalf("ShapeHas(%v, %v) is true", shape, p)
					}
				}
			}
		}
	}
}

// moveExamples returns shapes, the numbers by which they are moved, and the results, or none if they leave the range.
func moveExamples() []struct {
	corners string
	x, y    int
	want    string
} {
	return []struct {
		corners string
		x, y    int
		want    string
	}{
		{"0,0 4,0 0,4", 0, 0, "0,0 4,0 0,4"},
		{"0,0 4,0 0,4", 5, 1, "5,1 9,1 5,5"},
		{"0,4 0,0 4,0", 1, 5, "1,9 1,5 5,5"},
		{"5,1 9,1 5,5", -5, -1, "0,0 4,0 0,4"},
		{"5,1 9,1 5,5", -6, -1, ""},
		{"5,1 9,1 5,5", -5, -2, ""},
		{"5,1 9,1 5,5", 3, -1, "8,0 12,0 8,4"},
		{"0,0 4,0 0,4", 95, 95, "95,95 99,95 95,99"},
		{"0,0 4,0 0,4", 96, 95, ""},
		{"0,0 4,0 0,4", 95, 96, ""},
		{"0,0 1,0 0,1", 98, 98, "98,98 99,98 98,99"},
		{"0,0 1,0 0,1", 99, 0, ""},
		{"0,0 1,0 0,1", 0, 99, ""},
		{"98,98 99,98 99,99", -98, -98, "0,0 1,0 1,1"},
		{"98,98 99,98 99,99", -99, 0, ""},
		{"98,98 99,98 99,99", 0, -99, ""},
		{"0,0 1,0 0,1", -1, 0, ""},
		{"0,0 1,0 0,1", 0, -1, ""},
		{"0,0 99,0 99,99 0,99", 0, 0, "0,0 99,0 99,99 0,99"},
		{"0,0 99,0 99,99 0,99", 1, 0, ""},
		{"0,0 99,0 99,99 0,99", 0, -1, ""},
		{"7,99 7,0 8,0 8,99", -7, 0, "0,99 0,0 1,0 1,99"},
		{"7,99 7,0 8,0 8,99", 91, 0, "98,99 98,0 99,0 99,99"},
		{"7,99 7,0 8,0 8,99", 92, 0, ""},
		{"1,0 2,0 3,1 3,2 2,3 1,3 0,2 0,1", 96, 96, "97,96 98,96 99,97 99,98 98,99 97,99 96,98 96,97"},
		{"97,96 98,96 99,97 99,98 98,99 97,99 96,98 96,97", -96, -96, "1,0 2,0 3,1 3,2 2,3 1,3 0,2 0,1"},
		{"97,96 98,96 99,97 99,98 98,99 97,99 96,98 96,97", -97, -96, ""},
	}
}

func TestShapeMoveExamples(t *testing.T) {
	for _, e := range moveExamples() {
		got, ok := impl.ShapeMove(pointsOf(e.corners), e.x, e.y)
		if ok != (e.want != "") || !slices.Equal(got, pointsOf(e.want)) {
			t.Errorf("ShapeMove of %q by %d and %d returned %v, %v, not %q", e.corners, e.x, e.y, got, ok, e.want)
		}
	}
}

// Promises 102 and 103: a moved shape has as many points and the same area, its corners and its box are moved, and
// moving back leads back.
func TestShapeMove(t *testing.T) {
	random := rand.New(rand.NewSource(223))
	done, left := 0, 0
	for _, shape := range validShapes() {
		low, high := boxOf(t, shape)
		area, count := impl.ShapeArea(shape), impl.ShapeCount(shape)
		for _, x := range movesOf(random, low.X, high.X) {
			for _, y := range movesOf(random, low.Y, high.Y) {
				want := movedPoints(shape, x, y)
				got, ok := impl.ShapeMove(shape, x, y)
				if ok == slices.ContainsFunc(want, func(p impl.Point) bool { return !inGrid(p) }) {
					t.Fatalf("ShapeMove(%v, %d, %d) returned %v, %v", shape, x, y, got, ok)
				}
				if !ok {
					left++
					if len(got) != 0 {
						t.Fatalf("ShapeMove(%v, %d, %d) returned %v, false", shape, x, y, got)
					}
					continue
				}
				done++
				if !slices.Equal(got, want) {
					t.Fatalf("ShapeMove(%v, %d, %d) returned %v", shape, x, y, got)
				}
				if impl.ShapeArea(got) != area || impl.ShapeCount(got) != count {
					t.Fatalf("%v has the area %d and %d points, and %v has not", shape, area, count, got)
				}
				otherLow, otherHigh := boxOf(t, got)
				if otherLow != point(low.X+x, low.Y+y) || otherHigh != point(high.X+x, high.Y+y) {
					t.Fatalf("ShapeBox(%v) returned %v, %v", got, otherLow, otherHigh)
				}
				if back, ok := impl.ShapeMove(got, -x, -y); !ok || !slices.Equal(back, shape) {
					t.Fatalf("ShapeMove(%v, %d, %d) returned %v, %v", got, -x, -y, back, ok)
				}
			}
		}
	}
	if done < 1000 || left < 1000 {
		t.Errorf("only %d moves succeed, and %d fail", done, left)
	}
}

// All moves of a shape that succeed are those that leave it in the range.
func TestShapeMoveByAllNumbers(t *testing.T) {
	shape := pointsOf("40,20 43,20 43,25")
	for x := -120; x <= 120; x++ {
		for y := -120; y <= 120; y++ {
			want := x >= -40 && x <= 56 && y >= -20 && y <= 74
			if got, ok := impl.ShapeMove(shape, x, y); ok != want || ok && !slices.Equal(got, movedPoints(shape, x, y)) || !ok && len(got) != 0 {
				t.Fatalf("ShapeMove(%v, %d, %d) returned %v, %v", shape, x, y, got, ok)
			}
		}
	}
}

// Moves out of range fail, in each direction alone, too.
func TestShapeMoveOutOfRange(t *testing.T) {
	for _, shape := range validShapes() {
		for _, n := range []int{-100, 100, -101, 101, 1000, -1000, 1 << 32, -1 << 32, 1 << 62, math.MinInt, math.MinInt + 1, math.MaxInt, math.MaxInt - 98} {
			for _, m := range []int{0, 1, -1, n} {
				if got, ok := impl.ShapeMove(shape, n, m); ok || len(got) != 0 {
					t.Fatalf("ShapeMove(%v, %d, %d) returned %v, %v", shape, n, m, got, ok)
				}
				if got, ok := impl.ShapeMove(shape, m, n); ok || len(got) != 0 {
					t.Fatalf("ShapeMove(%v, %d, %d) returned %v, %v", shape, m, n, got, ok)
				}
			}
		}
	}
}

// Promise 105: a shape without any one of more than three corners is valid, with a smaller area; it is invalid with its
// corners in the other direction.
func TestShapeWithoutOneCorner(t *testing.T) {
	for _, shape := range validShapes() {
		for i := range shape {
			rest := without(shape, i)
			if impl.ShapeValid(rest) != (len(shape) > 3) {
				t.Fatalf("ShapeValid(%v) is %v", rest, len(shape) <= 3)
			}
			if area := impl.ShapeArea(rest); len(shape) > 3 && (area <= 0 || area >= impl.ShapeArea(shape)) {
				t.Fatalf("ShapeArea(%v) is %d, and with a further corner %d", rest, area, impl.ShapeArea(shape))
			}
			if other := beginningAt(backwards(shape), i); impl.ShapeValid(other) || impl.ShapeArea(other) != -1 {
				t.Fatalf("ShapeValid(%v) is true, or its area is not -1", other)
			}
		}
	}
}

// shapeAnswers returns what all functions that return no slice answer for corners.
func shapeAnswers(list []impl.Point) []int {
	answers := []int{impl.ShapeArea(list), impl.ShapeCount(list)}
	low, high, ok := impl.ShapeBox(list)
	answers = append(answers, low.X, low.Y, high.X, high.Y)
	for _, yes := range []bool{ok, impl.ShapeValid(list), impl.ShapeHas(list, point(2, 2)), impl.ShapeHas(list, point(-1, 0))} {
		if yes {
			answers = append(answers, 1)
		} else {
			answers = append(answers, 0)
		}
	}
	return answers
}

// No function changes its corners, or reads or writes behind them, and each answers the same when it is called again.
func TestShapesChangeNoArgument(t *testing.T) {
	for _, list := range append(invalidCorners(), validShapes()...) {
		want := shapeAnswers(slices.Clone(list))
		for _, room := range []impl.Point{point(0, 0), point(3, 2), point(-7, 100)} {
			memory := append(withRoom(list, 10), slices.Repeat([]impl.Point{room}, 9)...)
			old := slices.Clone(memory)
			corners := memory[:len(list)]
			for range 2 {
				if got := shapeAnswers(corners); !slices.Equal(got, want) {
					t.Fatalf("the answers for %v are %v, and then %v", list, want, got)
				}
				impl.ShapeMove(corners, 0, 0)
				impl.ShapeMove(corners, 1, -1)
				impl.ShapeMove(corners, -100, 99)
			}
			if !slices.Equal(memory, old) {
				t.Fatalf("%v is changed, or what lies behind it", list)
			}
		}
	}
}

// A moved shape shares no memory with the shape or with another result, also if it was moved by nothing.
func TestShapeMoveSharesNoMemory(t *testing.T) {
	for _, shape := range validShapes() {
		low, high := boxOf(t, shape)
		for _, move := range []impl.Point{point(0, 0), point(-low.X, -low.Y), point(99-high.X, 99-high.Y)} {
			corners := withRoom(shape, 10)
			first, _ := impl.ShapeMove(corners, move.X, move.Y)
			second, ok := impl.ShapeMove(corners, move.X, move.Y)
			want := movedPoints(shape, move.X, move.Y)
			if !ok || !slices.Equal(first, want) || !slices.Equal(second, want) {
				t.Fatalf("ShapeMove(%v, %d, %d) returned %v, and then %v, %v", shape, move.X, move.Y, first, second, ok)
			}
			overwrite(first, point(-7, -7))
			if !slices.Equal(second, want) || !slices.Equal(corners, shape) || !isZero(behind(corners)) {
				t.Fatalf("ShapeMove(%v, %d, %d) shares memory", shape, move.X, move.Y)
			}
			overwrite(corners, point(-9, -9))
			if !slices.Equal(second, want) {
				t.Fatalf("ShapeMove(%v, %d, %d) shares memory with the shape", shape, move.X, move.Y)
			}
		}
	}
}
