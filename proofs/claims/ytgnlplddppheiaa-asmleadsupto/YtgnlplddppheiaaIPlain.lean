/- The plain functions of layer isa: which parts an Op has, whether an instruction may be, its word; and what is said of them on integers alone. -/
namespace Go.Proofs.Ytgnlplddppheiaa

def partsF (op : Int) : Int :=
  if 1 ≤ op ∧ op ≤ 19 then 263
  else if op = 32 ∨ op = 35 ∨ op = 36 then 267
  else if op = 37 ∨ op = 38 then 139
  else if op = 33 then 265
  else if op = 34 then 401
  else if op = 39 ∨ op = 40 then 10
  else if op = 41 ∨ op = 42 then 32
  else if op = 43 ∨ op = 45 ∨ op = 47 then 2
  else if op = 44 then 257
  else if op = 46 then 64
  else 0

/-- An Op's row: its bits, the least and the greatest Imm, whether it has D, A, B, how many bits its Imm has, whether with a sign, whether it is one. -/
structure Row (p lo hi : Int) (D A B : Bool) (n : Int) (sg is : Bool) : Prop where
  out : (p = 263 ∧ lo = 0 ∧ hi = 0 ∧ D = true ∧ A = true ∧ B = true ∧ n = 0 ∧ sg = false ∧ is = true)
    ∨ (p = 267 ∧ lo = -32768 ∧ hi = 32767 ∧ D = true ∧ A = true ∧ B = false ∧ n = 16 ∧ sg = true ∧ is = true)
    ∨ (p = 139 ∧ lo = -32768 ∧ hi = 32767 ∧ D = true ∧ A = true ∧ B = false ∧ n = 16 ∧ sg = true ∧ is = true)
    ∨ (p = 265 ∧ lo = -32768 ∧ hi = 32767 ∧ D = true ∧ A = false ∧ B = false ∧ n = 16 ∧ sg = true ∧ is = true)
    ∨ (p = 401 ∧ lo = 0 ∧ hi = 65535 ∧ D = true ∧ A = false ∧ B = false ∧ n = 16 ∧ sg = false ∧ is = true)
    ∨ (p = 10 ∧ lo = -32768 ∧ hi = 32767 ∧ D = false ∧ A = true ∧ B = false ∧ n = 16 ∧ sg = true ∧ is = true)
    ∨ (p = 32 ∧ lo = -8388608 ∧ hi = 8388607 ∧ D = false ∧ A = false ∧ B = false ∧ n = 24 ∧ sg = true ∧ is = true)
    ∨ (p = 2 ∧ lo = 0 ∧ hi = 0 ∧ D = false ∧ A = true ∧ B = false ∧ n = 0 ∧ sg = false ∧ is = true)
    ∨ (p = 257 ∧ lo = 0 ∧ hi = 0 ∧ D = true ∧ A = false ∧ B = false ∧ n = 0 ∧ sg = false ∧ is = true)
    ∨ (p = 64 ∧ lo = 1 ∧ hi = 5 ∧ D = false ∧ A = false ∧ B = false ∧ n = 16 ∧ sg = false ∧ is = true)
    ∨ (p = 0 ∧ lo = 0 ∧ hi = 0 ∧ D = false ∧ A = false ∧ B = false ∧ n = 0 ∧ sg = false ∧ is = false)

def loF (p : Int) : Int := if p = 267 ∨ p = 139 ∨ p = 265 ∨ p = 10 then -32768 else if p = 32 then -8388608 else if p = 64 then 1 else 0
def hiF (p : Int) : Int := if p = 267 ∨ p = 139 ∨ p = 265 ∨ p = 10 then 32767 else if p = 401 then 65535 else if p = 32 then 8388607 else if p = 64 then 5 else 0
def hasD (p : Int) : Bool := p == 263 || p == 267 || p == 139 || p == 265 || p == 401 || p == 257
def hasA (p : Int) : Bool := p == 263 || p == 267 || p == 139 || p == 10 || p == 2
def hasB (p : Int) : Bool := p == 263
def nF (p : Int) : Int := if p = 267 ∨ p = 139 ∨ p = 265 ∨ p = 10 ∨ p = 401 ∨ p = 64 then 16 else if p = 32 then 24 else 0
def sgF (p : Int) : Bool := p == 267 || p == 139 || p == 265 || p == 10 || p == 32
def isF (p : Int) : Bool := p != 0

theorem row_of (op : Int) : Row (partsF op) (loF (partsF op)) (hiF (partsF op)) (hasD (partsF op)) (hasA (partsF op)) (hasB (partsF op)) (nF (partsF op)) (sgF (partsF op)) (isF (partsF op)) := by
  constructor
  unfold partsF
  repeat' split
  all_goals simp [loF, hiF, hasD, hasA, hasB, nF, sgF, isF]

theorem parts_bounds (op : Int) (h : partsF op ≠ 0) : 1 ≤ op ∧ op ≤ 47 := by
  unfold partsF at h
  omega

/-- May a register stand there? -/
def fitsB (r : Int) (has : Bool) : Bool := if has then decide (0 ≤ r ∧ r < 16) else r == 0

/-- May an instruction be? -/
def mayP (p d a b i : Int) : Bool := isF p && fitsB d (hasD p) && fitsB a (hasA p) && fitsB b (hasB p) && decide (loF p ≤ i ∧ i ≤ hiF p)

end Go.Proofs.Ytgnlplddppheiaa
