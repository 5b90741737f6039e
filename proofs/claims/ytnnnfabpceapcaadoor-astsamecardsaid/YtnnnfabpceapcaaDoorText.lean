/- A tree's text, as plain data. -/
import Derived.Test.YtnnnfabpceapcaaDoorName
import Derived.Test.YtnnnfabpceapcaaDoorMay3
import Derived.Test.YtnnnfabpceapcaaDoorSp
import Derived.Test.YtnnnfabpceapcaaDoorWalkC
namespace Go.Proofs.YtnnnfabpceapcaaDoor
open Go.RowKit
set_option linter.unusedVariables false

def hdT : Tr → NdH
  | .slice _ [.held x] => x
  | _ => ⟨0, ⟨#[]⟩, 0, false, 0⟩
def ksT : Tr → List Tr
  | .slice ks [.held _] => ks
  | _ => []
theorem hdT_node (x : NdH) (ks : List Tr) : hdT (Tr.node x ks) = x := rfl
theorem ksT_node (x : NdH) (ks : List Tr) : ksT (Tr.node x ks) = ks := rfl

/-- An expression's level. -/
def lvl (x : NdH) : Int := if x.kind = 13 then 0 else if x.kind = 12 then 1 else if x.kind = 11 then logF x.str else if x.kind = 10 then binF x.str else if x.kind = 9 ∨ x.kind = 14 ∨ x.kind = 15 then 12 else 13
def parenL (l : List UInt8) : List UInt8 := 40 :: (l ++ [41])
/-- A kid at a level. -/
def atL (k : Int) (t : Tr) (s : List UInt8) : List UInt8 := if k ≤ lvl (hdT t) then s else parenL s
/-- Texts, with one between each two. -/
def joinL (sep : List UInt8) : List (List UInt8) → List UInt8
  | [] => []
  | [a] => a
  | a :: b :: r => a ++ (sep ++ joinL sep (b :: r))
def digC (n : Nat) : UInt8 := (48 + n).toUInt8
/-- A number's digits. -/
def decF : Nat → Nat → List UInt8
  | 0, _ => []
  | f + 1, n => if n < 10 then [digC n] else decF f (n / 10) ++ [digC (n % 10)]
def numL (x : NdH) : List UInt8 := decF 20 x.num.toNat ++ (if x.flag then [117] else [])
def hdC (n : Nat) : UInt8 := if n < 10 then (48 + n).toUInt8 else (87 + n).toUInt8
def chrL (n : Nat) : List UInt8 := [39, 92, 120, hdC (n / 16), hdC (n % 16), 39]
/-- Perhaps an expression. -/
def perL (t : Tr) (s : List UInt8) : List UInt8 := if (hdT t).kind = 56 then [] else s

/-- A node's text, its kids' given. -/
def spellN (qt : List UInt8 → List UInt8) (x : NdH) (ks : List Tr) (ss : List (List UInt8)) : List UInt8 :=
  let k := fun i => ks.getD i noT
  let s := fun i => ss.getD i []
  let n := lst x.str
  if x.kind = 1 then numL x
  else if x.kind = 2 then chrL x.num.toNat
  else if x.kind = 3 then qt n
  else if x.kind = 4 then n
  else if x.kind = 5 then atL 13 (k 0) (s 0) ++ ([91] ++ (s 1 ++ [93]))
  else if x.kind = 6 then atL 13 (k 0) (s 0) ++ ([46] ++ n)
  else if x.kind = 7 then atL 13 (k 0) (s 0) ++ ([45, 62] ++ n)
  else if x.kind = 8 then n ++ ([40] ++ (joinL [44, 32] ss ++ [41]))
  else if x.kind = 9 then n ++ ((if (hdT (k 0)).kind = 9 ∧ lst (hdT (k 0)).str = n then [32] else []) ++ atL 12 (k 0) (s 0))
  else if x.kind = 14 then parenL (s 0) ++ atL 12 (k 1) (s 1)
  else if x.kind = 15 then [115, 105, 122, 101, 111, 102] ++ (if (hdT (k 0)).kind = 16 then parenL (s 0) else [32] ++ (if (hdT (k 0)).kind = 14 then parenL (s 0) else atL 12 (k 0) (s 0)))
  else if x.kind = 10 ∨ x.kind = 11 then atL (lvl x) (k 0) (s 0) ++ ([32] ++ (n ++ ([32] ++ atL (lvl x + 1) (k 1) (s 1))))
  else if x.kind = 12 then atL 2 (k 0) (s 0) ++ ([32, 63, 32] ++ (s 1 ++ ([32, 58, 32] ++ atL 1 (k 2) (s 2))))
  else if x.kind = 13 then atL 13 (k 0) (s 0) ++ ([32] ++ (n ++ ([32] ++ s 1)))
  else if x.kind = 16 then n
  else if x.kind = 40 then joinL [] ss
  else if x.kind = 41 then [115, 116, 114, 117, 99, 116, 32] ++ (n ++ ([32, 123, 10] ++ (joinL [] ss ++ [125, 59, 10])))
  else if x.kind = 42 then s 0 ++ ([32] ++ (joinL [44, 32] (ss.drop 1) ++ [59, 10]))
  else if x.kind = 43 then n ++ ((if x.flag then [91] ++ (perL (k 0) (s 0) ++ [93]) else []) ++ (if (if x.flag then ss.drop 1 else ss).isEmpty then [] else [32, 61, 32] ++ (if x.flag then ss.drop 1 else ss).getD 0 []))
  else if x.kind = 44 then [123] ++ (joinL [44, 32] ss ++ [125])
  else if x.kind = 45 then s 0 ++ ([32] ++ (n ++ ([40] ++ (joinL [44, 32] ((ss.drop 1).take (ss.length - 2)) ++ ([41, 32] ++ s (ss.length - 1))))))
  else if x.kind = 46 then s 0 ++ ([32] ++ ((if x.num = 1 then [42] else []) ++ (n ++ (if x.flag then [91, 93] else []))))
  else if x.kind = 47 then [123, 10] ++ (joinL [] ss ++ [125, 10])
  else if x.kind = 48 then s 0 ++ [59, 10]
  else if x.kind = 49 then [105, 102, 32, 40] ++ (s 0 ++ ([41, 10] ++ joinL [101, 108, 115, 101, 10] (ss.drop 1)))
  else if x.kind = 50 then [119, 104, 105, 108, 101, 32, 40] ++ (s 0 ++ ([41, 10] ++ s 1))
  else if x.kind = 51 then [100, 111, 10] ++ (s 0 ++ ([119, 104, 105, 108, 101, 32, 40] ++ (s 1 ++ [41, 59, 10])))
  else if x.kind = 52 then [102, 111, 114, 32, 40] ++ (perL (k 0) (s 0) ++ ([59, 32] ++ (perL (k 1) (s 1) ++ ([59, 32] ++ (perL (k 2) (s 2) ++ ([41, 10] ++ s 3))))))
  else if x.kind = 53 then [98, 114, 101, 97, 107, 59, 10]
  else if x.kind = 54 then [99, 111, 110, 116, 105, 110, 117, 101, 59, 10]
  else if x.kind = 55 then [114, 101, 116, 117, 114, 110] ++ ((if ss.isEmpty then [] else [32]) ++ (joinL [] ss ++ [59, 10]))
  else if x.kind = 56 then [59, 10]
  else []
section
variable (qt : List UInt8 → List UInt8)
/-- A tree's text. -/
def spellT : Tr → List UInt8
  | .slice ks [.held x] => spellN qt x ks (ks.map spellT)
  | _ => []
theorem spellT_node (x : NdH) (ks : List Tr) : spellT qt (Tr.node x ks) = spellN qt x ks (ks.map (spellT qt)) := by unfold Tr.node; rw [spellT]
end

/-- A piece's text. -/
def pcL (sp : Tr → List UInt8) (p : Pc) : List UInt8 := match p.ptr with
  | none => lst p.text
  | some _ => sp p.t
def txts (sp : Tr → List UInt8) : List Pc → List UInt8
  | [] => []
  | p :: r => pcL sp p ++ txts sp r
theorem txts_append (sp : Tr → List UInt8) : ∀ (a b : List Pc), txts sp (a ++ b) = txts sp a ++ txts sp b
  | [], b => rfl
  | p :: r, b => by
    show pcL sp p ++ txts sp (r ++ b) = pcL sp p ++ txts sp r ++ txts sp b
    rw [txts_append sp r b, List.append_assoc]
/-- A tree's weight: more than its pieces' together. -/
def wtT (t : Tr) : Nat := 23 * szT t - 3
def wtP (p : Pc) : Nat := match p.ptr with
  | none => 1
  | some _ => wtT p.t
def wts : List Pc → Nat
  | [] => 0
  | p :: r => wtP p + wts r
theorem wts_append : ∀ (a b : List Pc), wts (a ++ b) = wts a + wts b
  | [], b => by show wts b = 0 + wts b; omega
  | p :: r, b => by
    show wtP p + wts (r ++ b) = wtP p + wts r + wts b
    rw [wts_append r b]
    omega
theorem szT_one (t : Tr) : 1 ≤ szT t := szT_pos t
theorem wtP_one (p : Pc) : 1 ≤ wtP p := by
  unfold wtP
  split
  · omega
  · unfold wtT
    have := szT_pos p.t
    omega
theorem len_le_wts : ∀ (T : List Pc), T.length ≤ wts T
  | [] => Nat.le_refl _
  | p :: r => by
    have := len_le_wts r
    have := wtP_one p
    show r.length + 1 ≤ wtP p + wts r
    omega

/-- A piece that is a node lies in memory that is let be, and may be. -/
def Val (G : NdH → List Tr → Bool) (w0 : World) (p : Pc) : Prop := p.ptr = none ∨ ∃ b o x kv n ks cb, p.ptr = some (b, o) ∧ p.t = Tr.node x ks ∧ NdAt w0 b o x kv ∧ b < w0.heap.size ∧ Ks cb n w0 kv ks ∧ allT G (Tr.node x ks) = true
/-- What pieces say. -/
structure Says (G : NdH → List Tr → Bool) (sp : Tr → List UInt8) (w0 : World) (P : List Pc) (L : List UInt8) (n : Nat) : Prop where
  text : txts sp P = L
  wt : wts P ≤ n
  val : ∀ p ∈ P, Val G w0 p
section
variable {G : NdH → List Tr → Bool} {sp : Tr → List UInt8} {w0 : World} {P Q : List Pc} {L M : List UInt8} {m n : Nat}
theorem Says.nil : Says G sp w0 [] [] 0 := ⟨rfl, Nat.le_refl _, fun p hp => by simp at hp⟩
theorem Says.append (h : Says G sp w0 P L m) (k : Says G sp w0 Q M n) : Says G sp w0 (P ++ Q) (L ++ M) (m + n) :=
  ⟨by rw [txts_append, h.text, k.text], by have := h.wt; have := k.wt; rw [wts_append]; omega, fun p hp => (List.mem_append.1 hp).elim (h.val p) (k.val p)⟩
theorem Says.more (h : Says G sp w0 P L m) (hn : m ≤ n) : Says G sp w0 P L n := ⟨h.text, Nat.le_trans h.wt hn, h.val⟩
theorem Says.is (h : Says G sp w0 P L m) (e : L = M) : Says G sp w0 P M m := e ▸ h
theorem Says.txt (s : ByteArray) : Says G sp w0 [txt s] (lst s) 1 := ⟨by show lst s ++ [] = _; rw [List.append_nil], Nat.le_refl _, fun p hp => by simp at hp; subst hp; exact .inl rfl⟩
theorem Says.nod {b o : Nat} {x : NdH} {kv : Value} {i cb : Nat} {ks : List Tr} (h : NdAt w0 b o x kv) (hb : b < w0.heap.size) (hK : Ks cb i w0 kv ks) (hG : allT G (Tr.node x ks) = true) : Says G sp w0 [nod b o (Tr.node x ks)] (sp (Tr.node x ks)) (wtT (Tr.node x ks)) :=
  ⟨by show sp (Tr.node x ks) ++ [] = _; rw [List.append_nil], Nat.le_refl _, fun p hp => by simp at hp; subst hp; exact .inr ⟨b, o, x, kv, i, ks, cb, rfl, rfl, h, hb, hK, hG⟩⟩
end
end Go.Proofs.YtnnnfabpceapcaaDoor
