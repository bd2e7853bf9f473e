package rules_test

import (
	"simile/bareiss"
	"simile/bound"
	"simile/charfree"
	"simile/commute"
	"simile/companion"
	"simile/crt"
	"simile/evalm"
	"simile/frob"
	"simile/hess"
	"simile/krylov"
	"simile/minpoly"
	"simile/modmat"
	"simile/modpoly"
	"simile/modroute"
	"simile/nat"
	"simile/numeral"
	"simile/prime"
	"simile/qmat"
	"simile/qpoly"
	"simile/rat"
	"simile/route"
	"simile/session"
	"simile/simil"
	"simile/smith"
	"simile/space"
	"simile/verify"
	"simile/zint"
	"simile/zpoly"
)

// calls are all that the chapters list, by their names.
func calls() map[string]any {
	return map[string]any{
		"nat.Norm": nat.Norm, "nat.Of": nat.Of, "nat.Uint64": nat.Uint64, "nat.Len": nat.Len, "nat.Bit": nat.Bit, "nat.Cmp": nat.Cmp, "nat.Add": nat.Add, "nat.Sub": nat.Sub, "nat.Mul": nat.Mul, "nat.Div": nat.Div, "nat.Gcd": nat.Gcd, "nat.Left": nat.Left, "nat.Right": nat.Right, "nat.Pow": nat.Pow, "nat.Sqrt": nat.Sqrt, "nat.Trail": nat.Trail, "nat.Bits": nat.Bits,
		"numeral.Int": numeral.Int, "numeral.PrintInt": numeral.PrintInt, "numeral.Frac": numeral.Frac, "numeral.PrintFrac": numeral.PrintFrac, "numeral.Row": numeral.Row, "numeral.Matrix": numeral.Matrix, "numeral.PrintRow": numeral.PrintRow, "numeral.PrintMatrix": numeral.PrintMatrix, "numeral.Based": numeral.Based, "numeral.FromBase": numeral.FromBase, "numeral.Plain": numeral.Plain, "numeral.Words": numeral.Words,
		"zint.Norm": zint.Norm, "zint.Of": zint.Of, "zint.Int64": zint.Int64, "zint.Sign": zint.Sign, "zint.Cmp": zint.Cmp, "zint.Neg": zint.Neg, "zint.Abs": zint.Abs, "zint.Add": zint.Add, "zint.Sub": zint.Sub, "zint.Mul": zint.Mul, "zint.Euclid": zint.Euclid, "zint.Trunc": zint.Trunc, "zint.Exact": zint.Exact, "zint.Gcd": zint.Gcd, "zint.Lcm": zint.Lcm, "zint.Bezout": zint.Bezout, "zint.Pow": zint.Pow, "zint.Mod": zint.Mod, "zint.Sum": zint.Sum, "zint.Product": zint.Product, "zint.Near": zint.Near,
		"prime.Is": prime.Is, "prime.Next": prime.Next, "prime.Last": prime.Last, "prime.List": prime.List, "prime.Between": prime.Between, "prime.Factors": prime.Factors, "prime.Divisors": prime.Divisors, "prime.Totient": prime.Totient, "prime.Add": prime.Add, "prime.Sub": prime.Sub, "prime.Mul": prime.Mul, "prime.Neg": prime.Neg, "prime.Pow": prime.Pow, "prime.Inv": prime.Inv, "prime.Quo": prime.Quo, "prime.Of": prime.Of, "prime.OfRat": prime.OfRat, "prime.Legendre": prime.Legendre, "prime.Sqrt": prime.Sqrt, "prime.Order": prime.Order, "prime.Root": prime.Root,
		"rat.Make": rat.Make, "rat.Of": rat.Of, "rat.Norm": rat.Norm, "rat.Sign": rat.Sign, "rat.Cmp": rat.Cmp, "rat.Neg": rat.Neg, "rat.Inv": rat.Inv, "rat.Add": rat.Add, "rat.Sub": rat.Sub, "rat.Mul": rat.Mul, "rat.Quo": rat.Quo, "rat.Pow": rat.Pow, "rat.Floor": rat.Floor, "rat.Common": rat.Common, "rat.Height": rat.Height, "rat.Parts": rat.Parts, "rat.FromParts": rat.FromParts,
		"crt.New": crt.New, "crt.Of": crt.Of, "crt.Steps": crt.Steps, "crt.Lift": crt.Lift, "crt.Digits": crt.Digits, "crt.Join": crt.Join, "crt.Recon": crt.Recon,
		"zpoly.Norm": zpoly.Norm, "zpoly.Degree": zpoly.Degree, "zpoly.Lead": zpoly.Lead, "zpoly.Equal": zpoly.Equal, "zpoly.Add": zpoly.Add, "zpoly.Sub": zpoly.Sub, "zpoly.Mul": zpoly.Mul, "zpoly.Scale": zpoly.Scale, "zpoly.Eval": zpoly.Eval, "zpoly.Derive": zpoly.Derive, "zpoly.Content": zpoly.Content, "zpoly.Primitive": zpoly.Primitive, "zpoly.Pseudo": zpoly.Pseudo, "zpoly.Exact": zpoly.Exact, "zpoly.Gcd": zpoly.Gcd, "zpoly.Resultant": zpoly.Resultant, "zpoly.Height": zpoly.Height,
		"modpoly.Normal": modpoly.Normal, "modpoly.Degree": modpoly.Degree, "modpoly.Monic": modpoly.Monic, "modpoly.Add": modpoly.Add, "modpoly.Sub": modpoly.Sub, "modpoly.Mul": modpoly.Mul, "modpoly.Scale": modpoly.Scale, "modpoly.Shift": modpoly.Shift, "modpoly.Div": modpoly.Div, "modpoly.Gcd": modpoly.Gcd, "modpoly.Lcm": modpoly.Lcm, "modpoly.Bezout": modpoly.Bezout, "modpoly.Eval": modpoly.Eval, "modpoly.Interp": modpoly.Interp, "modpoly.Deriv": modpoly.Deriv, "modpoly.Free": modpoly.Free, "modpoly.Pow": modpoly.Pow, "modpoly.Invert": modpoly.Invert, "modpoly.Compose": modpoly.Compose, "modpoly.Roots": modpoly.Roots, "modpoly.Irreducible": modpoly.Irreducible, "modpoly.Factor": modpoly.Factor,
		"qpoly.Norm": qpoly.Norm, "qpoly.Degree": qpoly.Degree, "qpoly.Equal": qpoly.Equal, "qpoly.Monic": qpoly.Monic, "qpoly.Add": qpoly.Add, "qpoly.Sub": qpoly.Sub, "qpoly.Mul": qpoly.Mul, "qpoly.Scale": qpoly.Scale, "qpoly.Div": qpoly.Div, "qpoly.Divides": qpoly.Divides, "qpoly.Gcd": qpoly.Gcd, "qpoly.Lcm": qpoly.Lcm, "qpoly.Bezout": qpoly.Bezout, "qpoly.Eval": qpoly.Eval, "qpoly.Derive": qpoly.Derive, "qpoly.Compose": qpoly.Compose, "qpoly.Squarefree": qpoly.Squarefree, "qpoly.Split": qpoly.Split, "qpoly.Integral": qpoly.Integral, "qpoly.FromInt": qpoly.FromInt,
		"modmat.Normal": modmat.Normal, "modmat.Size": modmat.Size, "modmat.Identity": modmat.Identity, "modmat.Add": modmat.Add, "modmat.Sub": modmat.Sub, "modmat.Mul": modmat.Mul, "modmat.Scale": modmat.Scale, "modmat.Transpose": modmat.Transpose, "modmat.Pow": modmat.Pow, "modmat.Trace": modmat.Trace, "modmat.Reduce": modmat.Reduce, "modmat.Rank": modmat.Rank, "modmat.Det": modmat.Det, "modmat.Solve": modmat.Solve, "modmat.Inverse": modmat.Inverse, "modmat.Kernel": modmat.Kernel, "modmat.Vander": modmat.Vander, "modmat.Dot": modmat.Dot,
		"qmat.Check": qmat.Check, "qmat.Norm": qmat.Norm, "qmat.From": qmat.From, "qmat.Rows": qmat.Rows, "qmat.Size": qmat.Size, "qmat.At": qmat.At, "qmat.Equal": qmat.Equal, "qmat.Identity": qmat.Identity, "qmat.Zero": qmat.Zero, "qmat.Add": qmat.Add, "qmat.Sub": qmat.Sub, "qmat.Mul": qmat.Mul, "qmat.Scale": qmat.Scale, "qmat.Transpose": qmat.Transpose, "qmat.Trace": qmat.Trace, "qmat.Pow": qmat.Pow, "qmat.Blocks": qmat.Blocks, "qmat.Stack": qmat.Stack, "qmat.Cut": qmat.Cut, "qmat.Kronecker": qmat.Kronecker, "qmat.Flat": qmat.Flat, "qmat.VecNorm": qmat.VecNorm, "qmat.VecFrom": qmat.VecFrom, "qmat.VecEqual": qmat.VecEqual, "qmat.VecAdd": qmat.VecAdd, "qmat.Apply": qmat.Apply, "qmat.Columns": qmat.Columns, "qmat.FromColumns": qmat.FromColumns, "qmat.Height": qmat.Height,
		"bareiss.Echelon": bareiss.Echelon, "bareiss.Det": bareiss.Det, "bareiss.Rank": bareiss.Rank, "bareiss.Reduce": bareiss.Reduce, "bareiss.Solve": bareiss.Solve, "bareiss.Inverse": bareiss.Inverse, "bareiss.Adjugate": bareiss.Adjugate, "bareiss.Minor": bareiss.Minor, "bareiss.Kernel": bareiss.Kernel, "bareiss.Cramer": bareiss.Cramer,
		"space.Check": space.Check, "space.Span": space.Span, "space.Dim": space.Dim, "space.Has": space.Has, "space.Coordinates": space.Coordinates, "space.Equal": space.Equal, "space.Within": space.Within, "space.Sum": space.Sum, "space.Meet": space.Meet, "space.Complement": space.Complement, "space.Kernel": space.Kernel, "space.Image": space.Image, "space.Under": space.Under, "space.Stays": space.Stays, "space.Independent": space.Independent,
		"evalm.At": evalm.At, "evalm.On": evalm.On, "evalm.Kills": evalm.Kills, "evalm.KillsVec": evalm.KillsVec, "evalm.Kernel": evalm.Kernel, "evalm.Image": evalm.Image, "evalm.Powers": evalm.Powers, "evalm.Traces": evalm.Traces, "evalm.Combine": evalm.Combine, "evalm.Bracket": evalm.Bracket,
		"krylov.Sequence": krylov.Sequence, "krylov.MinPoly": krylov.MinPoly, "krylov.Basis": krylov.Basis, "krylov.Cyclic": krylov.Cyclic, "krylov.Conductor": krylov.Conductor, "krylov.Closure": krylov.Closure, "krylov.Express": krylov.Express,
		"minpoly.Of": minpoly.Of, "minpoly.Degree": minpoly.Degree, "minpoly.Vector": minpoly.Vector, "minpoly.Local": minpoly.Local, "minpoly.Rest": minpoly.Rest, "minpoly.Inverse": minpoly.Inverse, "minpoly.Power": minpoly.Power, "minpoly.Nilpotent": minpoly.Nilpotent, "minpoly.Semisimple": minpoly.Semisimple, "minpoly.Parts": minpoly.Parts,
		"companion.Of": companion.Of, "companion.Sum": companion.Sum, "companion.Read": companion.Read, "companion.Chain": companion.Chain, "companion.IsForm": companion.IsForm, "companion.Char": companion.Char, "companion.Commuting": companion.Commuting,
		"smith.Char": smith.Char, "smith.Identity": smith.Identity, "smith.Mul": smith.Mul, "smith.Equal": smith.Equal, "smith.Scalar": smith.Scalar, "smith.Det": smith.Det, "smith.Rank": smith.Rank, "smith.Divisors": smith.Divisors, "smith.Diagonal": smith.Diagonal, "smith.Form": smith.Form, "smith.Factors": smith.Factors, "smith.Unimodular": smith.Unimodular, "smith.Inverse": smith.Inverse, "smith.Equivalent": smith.Equivalent,
		"frob.Form": frob.Form, "frob.Invariants": frob.Invariants, "frob.Decompose": frob.Decompose, "frob.Cyclic": frob.Cyclic,
		"charfree.Berkowitz": charfree.Berkowitz, "charfree.Interpolated": charfree.Interpolated, "charfree.Leverrier": charfree.Leverrier, "charfree.Sums": charfree.Sums, "charfree.FromTraces": charfree.FromTraces, "charfree.Cayley": charfree.Cayley, "charfree.Shifted": charfree.Shifted, "charfree.Pencil": charfree.Pencil,
		"hess.Is": hess.Is, "hess.Reduce": hess.Reduce, "hess.Char": hess.Char, "hess.Of": hess.Of,
		"bound.Integral": bound.Integral, "bound.Sums": bound.Sums, "bound.Coeffs": bound.Coeffs, "bound.Bound": bound.Bound, "bound.Hadamard": bound.Hadamard, "bound.Enough": bound.Enough, "bound.Choose": bound.Choose, "bound.Radius": bound.Radius,
		"modroute.Char": modroute.Char, "modroute.Lift": modroute.Lift, "modroute.Images": modroute.Images,
		"simil.Similar": simil.Similar, "simil.Differ": simil.Differ, "simil.Key": simil.Key, "simil.Conjugate": simil.Conjugate, "simil.Transposer": simil.Transposer, "simil.Classes": simil.Classes, "simil.Scaled": simil.Scaled,
		"commute.Basis": commute.Basis, "commute.Dim": commute.Dim, "commute.Does": commute.Does, "commute.Coordinates": commute.Coordinates, "commute.Poly": commute.Poly, "commute.Between": commute.Between,
		"route.Names": route.Names, "route.Get": route.Get, "route.Ask": route.Ask, "route.Prove": route.Prove, "route.All": route.All, "route.Agree": route.Agree, "route.Pick": route.Pick, "route.Minimal": route.Minimal,
		"verify.Form": verify.Form, "verify.Similar": verify.Similar, "verify.Modular": verify.Modular, "verify.Basis": verify.Basis, "verify.Name": verify.Name,
		"session.Check": session.Check, "session.Play": session.Play, "session.Lines": session.Lines, "session.Read": session.Read,
	}
}
