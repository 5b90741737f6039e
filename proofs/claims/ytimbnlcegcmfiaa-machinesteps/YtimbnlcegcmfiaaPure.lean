/- What an instruction makes of a machine's state, as plain functions. -/
import Derived.Test.YtimbnlcegcmfiaaMach
import Derived.Test.YtimbnlcegcmfiaaMLoads
import Derived.Test.YtimbnlcegcmfiaaWPlain
namespace Go.Proofs.Ytimbnlcegcmfiaa
open Go.RowKit
set_option linter.unusedVariables false

/-- A register is written; what is written to register 0 is gone. -/
def wr (f : Nat → Int) (d : Nat) (x : Int) : Nat → Int := if d = 0 then f else upd f d x
/-- An address. -/
def adr (s : St) (a : Nat) (i : Int) : Int := (s.reg a + i) % 4294967296
theorem adr_lo (s : St) (a : Nat) (i : Int) : 0 ≤ adr s a i := by unfold adr; omega
theorem adr_hi (s : St) (a : Nat) (i : Int) : adr s a i < 4294967296 := by unfold adr; omega
def trapS (s : St) (k : Int) : St := { s with kind := 2, trap := k }
def highF (x i : Int) : Int := bits .or .u32 (x % 65536) (i % 4294967296 * 65536 % 4294967296)
def ld4 (g : Nat → UInt8) (A : Nat) : Int × Int := if A % 4 = 0 ∧ A + 4 ≤ 262144 then (wordAt g A, 0) else (0, 5)
def ld1 (g : Nat → UInt8) (A : Nat) : Int × Int := if A < 262144 then (((g A).toNat : Int), 0) else (0, 5)
/-- What goes to D, and the trap that is met instead (all that give, but InsGet). -/
def valF (s : St) (op : Int) (d a b : Nat) (i : Int) : Int × Int :=
  if op = 32 then (adr s a i, 0)
  else if op = 33 then (i % 4294967296, 0)
  else if op = 34 then (highF (s.reg d) i, 0)
  else if op = 35 then ld4 s.mem (adr s a i).toNat
  else if op = 36 then ld1 s.mem (adr s a i).toNat
  else (aluV op (s.reg a) (s.reg b), aluT op (s.reg b))
def getV (s : St) : Int := if h : s.used < s.input.size then (s.input[s.used].toNat : Int) else 4294967295
def getS (s : St) : St := if s.used < s.input.size then { s with used := s.used + 1 } else s
def stOk (op : Int) (A : Nat) : Bool := if op = 37 then decide (A % 4 = 0 ∧ A + 4 ≤ 262144) else decide (A < 262144)
def stMem (op : Int) (g : Nat → UInt8) (A : Nat) (x : Int) : Nat → UInt8 := if op = 37 then lay g A (four x) else lay g A [by8 x]
/-- A store. -/
def stF (s : St) (op : Int) (d a : Nat) (i : Int) : St × Int :=
  if stOk op (adr s a i).toNat then ({ s with mem := stMem op s.mem (adr s a i).toNat (s.reg d) }, 0) else (s, 5)
/-- Where it goes on. -/
def brF (s : St) (op : Int) (a : Nat) (i : Int) : Int :=
  if op = 43 then s.reg a
  else if op = 39 then (if s.reg a = 0 then s.pc + 4 + 4 * i else s.pc + 4)
  else if op = 40 then (if s.reg a = 0 then s.pc + 4 else s.pc + 4 + 4 * i)
  else s.pc + 4 + 4 * i
/-- What gives: the state behind it, and the trap that it meets. -/
def giF (s : St) (op : Int) (d a b : Nat) (i : Int) : St × Int :=
  if op = 44 then ({ getS s with reg := wr s.reg d (getV s) }, 0)
  else if (valF s op d a b i).2 = 0 then ({ s with reg := wr s.reg d (valF s op d a b i).1 }, 0)
  else (s, (valF s op d a b i).2)
/-- What an instruction does. -/
def doF (s : St) (op : Int) (d a b : Nat) (i : Int) : St :=
  if op = 37 ∨ op = 38 then (if (stF s op d a i).2 = 0 then { (stF s op d a i).1 with pc := s.pc + 4 } else trapS s (stF s op d a i).2)
  else if op = 39 ∨ op = 40 ∨ op = 41 ∨ op = 43 then { s with pc := brF s op a i }
  else if op = 42 then { s with reg := upd s.reg 14 ((s.pc + 4) % 4294967296), pc := brF s op a i }
  else if op = 45 then { s with out := s.out ++ [by8 (s.reg a)], pc := s.pc + 4 }
  else if op = 46 then trapS s i
  else if op = 47 then { s with kind := 1, exit := wrap32 (s.reg a) }
  else if (giF s op d a b i).2 = 0 then { (giF s op d a b i).1 with pc := s.pc + 4 } else trapS s (giF s op d a b i).2
end Go.Proofs.Ytimbnlcegcmfiaa
