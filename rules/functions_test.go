// Package rules tests what the document promises for all packages alike.
package rules

import (
	"rankmere/band"
	"rankmere/bareiss"
	"rankmere/book"
	"rankmere/charpoly"
	"rankmere/cont"
	"rankmere/crt"
	"rankmere/definite"
	"rankmere/desk"
	"rankmere/det"
	"rankmere/euclid"
	"rankmere/field"
	"rankmere/gauss"
	"rankmere/hermite"
	"rankmere/inv"
	"rankmere/ipol"
	"rankmere/kara"
	"rankmere/lattice"
	"rankmere/lu"
	"rankmere/massey"
	"rankmere/mat"
	"rankmere/minors"
	"rankmere/ntt"
	"rankmere/paths"
	"rankmere/perm"
	"rankmere/pfaff"
	"rankmere/poly"
	"rankmere/recur"
	"rankmere/result"
	"rankmere/smith"
	"rankmere/solve"
	"rankmere/sturm"
	"rankmere/tree"
	"rankmere/vander"
)

// function is an exported function of the document.
type function struct {
	name string
	kind string // its parameters and results as the document has them
	call any
}

// functions returns all functions of the document, chapter by chapter.
func functions() []function {
	return []function{
		{"euclid.Gcd", "func(int, int) (int, error)", euclid.Gcd},
		{"euclid.Bezout", "func(int, int) (int, int, int, error)", euclid.Bezout},
		{"euclid.Steps", "func(int, int) (int, error)", euclid.Steps},
		{"field.Add", "func(int, int) (int, error)", field.Add},
		{"field.Mul", "func(int, int) (int, error)", field.Mul},
		{"field.Div", "func(int, int) (int, error)", field.Div},
		{"field.Pow", "func(int, int) (int, error)", field.Pow},
		{"crt.Solve", "func([]int, []int) (int, int, error)", crt.Solve},
		{"cont.Terms", "func(api.Frac) ([]int, error)", cont.Terms},
		{"cont.Near", "func([]int) ([]api.Frac, error)", cont.Near},
		{"cont.Best", "func(api.Frac, int) (api.Frac, error)", cont.Best},
		{"poly.Check", "func([]int) error", poly.Check},
		{"poly.Add", "func([]int, []int) ([]int, error)", poly.Add},
		{"poly.Mul", "func([]int, []int) ([]int, error)", poly.Mul},
		{"poly.Div", "func([]int, []int) ([]int, []int, error)", poly.Div},
		{"poly.Gcd", "func([]int, []int) ([]int, error)", poly.Gcd},
		{"poly.At", "func([]int, int) (int, error)", poly.At},
		{"ipol.Check", "func([]int, []int) error", ipol.Check},
		{"ipol.Steps", "func([]int, []int) ([]int, error)", ipol.Steps},
		{"ipol.Through", "func([]int, []int) ([]int, error)", ipol.Through},
		{"kara.Check", "func([]int, []int) error", kara.Check},
		{"kara.Mul", "func([]int, []int) ([]int, int, error)", kara.Mul},
		{"ntt.Check", "func([]int) error", ntt.Check},
		{"ntt.There", "func([]int) ([]int, error)", ntt.There},
		{"ntt.Back", "func([]int) ([]int, error)", ntt.Back},
		{"ntt.Fold", "func([]int, []int) ([]int, error)", ntt.Fold},
		{"mat.Check", "func([][]int) error", mat.Check},
		{"mat.Add", "func([][]int, [][]int) ([][]int, error)", mat.Add},
		{"mat.Mul", "func([][]int, [][]int) ([][]int, error)", mat.Mul},
		{"mat.Turn", "func([][]int) ([][]int, error)", mat.Turn},
		{"mat.One", "func(int) ([][]int, error)", mat.One},
		{"mat.Pow", "func([][]int, int) ([][]int, error)", mat.Pow},
		{"gauss.Steps", "func([][]int) ([][]int, []int, error)", gauss.Steps},
		{"gauss.Rank", "func([][]int) (int, error)", gauss.Rank},
		{"solve.Null", "func([][]int) ([][]int, error)", solve.Null},
		{"solve.One", "func([][]int, []int) ([]int, error)", solve.One},
		{"det.Check", "func([][]int) error", det.Check},
		{"det.Of", "func([][]int) (int, error)", det.Of},
		{"det.Sign", "func([]int) int", det.Sign},
		{"minors.Of", "func([][]int, int, int) (int, error)", minors.Of},
		{"minors.Adj", "func([][]int) ([][]int, error)", minors.Adj},
		{"inv.Of", "func([][]int) ([][]int, error)", inv.Of},
		{"inv.Change", "func([][]int, []int, []int) ([][]int, error)", inv.Change},
		{"bareiss.Check", "func([][]int) error", bareiss.Check},
		{"bareiss.Of", "func([][]int) (int, error)", bareiss.Of},
		{"bareiss.Leading", "func([][]int) ([]int, error)", bareiss.Leading},
		{"lu.Split", "func([][]int) ([]int, [][]int, [][]int, error)", lu.Split},
		{"definite.Check", "func([][]int) error", definite.Check},
		{"definite.At", "func([][]int, []int) (int, error)", definite.At},
		{"definite.Is", "func([][]int) (bool, error)", definite.Is},
		{"band.Check", "func([]int, []int, []int) error", band.Check},
		{"band.Det", "func([]int, []int, []int) (int, error)", band.Det},
		{"band.Mul", "func([]int, []int, []int, []int) ([]int, error)", band.Mul},
		{"band.Full", "func([]int, []int, []int) ([][]int, error)", band.Full},
		{"charpoly.Trace", "func([][]int) (int, error)", charpoly.Trace},
		{"charpoly.Of", "func([][]int) ([]int, error)", charpoly.Of},
		{"recur.Check", "func([]int, []int) error", recur.Check},
		{"recur.Row", "func([]int, []int, int) ([]int, error)", recur.Row},
		{"recur.Term", "func([]int, []int, int) (int, error)", recur.Term},
		{"massey.Check", "func([]int) error", massey.Check},
		{"massey.Fewest", "func([]int) (int, error)", massey.Fewest},
		{"massey.Factors", "func([]int) ([]int, error)", massey.Factors},
		{"massey.Goes", "func([]int, []int) (bool, error)", massey.Goes},
		{"vander.Check", "func([]int) error", vander.Check},
		{"vander.Full", "func([]int) ([][]int, error)", vander.Full},
		{"vander.Det", "func([]int) (int, error)", vander.Det},
		{"result.Check", "func([]int, []int) error", result.Check},
		{"result.Full", "func([]int, []int) ([][]int, error)", result.Full},
		{"result.Of", "func([]int, []int) (int, error)", result.Of},
		{"sturm.Check", "func([]int) error", sturm.Check},
		{"sturm.Count", "func([]int, int, int) (int, error)", sturm.Count},
		{"sturm.All", "func([]int) (int, error)", sturm.All},
		{"sturm.Turns", "func([]int) (int, error)", sturm.Turns},
		{"sturm.Content", "func([]int) (int, error)", sturm.Content},
		{"hermite.Check", "func([][]int) error", hermite.Check},
		{"hermite.Form", "func([][]int) ([][]int, error)", hermite.Form},
		{"hermite.Same", "func([][]int, [][]int) (bool, error)", hermite.Same},
		{"hermite.Has", "func([][]int, []int) (bool, error)", hermite.Has},
		{"smith.Parts", "func([][]int) ([]int, error)", smith.Parts},
		{"smith.Index", "func([][]int) (int, error)", smith.Index},
		{"lattice.Check", "func(api.Vec, api.Vec) error", lattice.Check},
		{"lattice.Short", "func(api.Vec, api.Vec) (int, int, error)", lattice.Short},
		{"lattice.Area", "func(api.Vec, api.Vec) (int, error)", lattice.Area},
		{"lattice.Has", "func(api.Vec, api.Vec, api.Vec) (bool, error)", lattice.Has},
		{"tree.Check", "func(int, [][]int) error", tree.Check},
		{"tree.Laplace", "func(int, [][]int) ([][]int, error)", tree.Laplace},
		{"tree.Count", "func(int, [][]int) (int, error)", tree.Count},
		{"paths.Check", "func(int, []int, []int) error", paths.Check},
		{"paths.Ways", "func(int, int) (int, error)", paths.Ways},
		{"paths.Apart", "func(int, []int, []int) (int, error)", paths.Apart},
		{"pfaff.Check", "func([][]int) error", pfaff.Check},
		{"pfaff.Of", "func([][]int) (int, error)", pfaff.Of},
		{"pfaff.Det", "func([][]int) (int, error)", pfaff.Det},
		{"perm.Check", "func([][]int) error", perm.Check},
		{"perm.Of", "func([][]int) (int, error)", perm.Of},
		{"perm.Pairs", "func([][]int) (int, error)", perm.Pairs},
		{"book.New", "func() *book.Book", book.New},
		{"book.Book.Set", "func(*book.Book, int, int, int) error", (*book.Book).Set},
		{"book.Book.Add", "func(*book.Book, int, int, int) error", (*book.Book).Add},
		{"book.Book.Rows", "func(*book.Book) [][]int", (*book.Book).Rows},
		{"book.Book.Det", "func(*book.Book) int", (*book.Book).Det},
		{"book.Book.Text", "func(*book.Book) string", (*book.Book).Text},
		{"book.Open", "func(string) (*book.Book, int, error)", book.Open},
		{"desk.Run", "func(string) string", desk.Run},
	}
}
