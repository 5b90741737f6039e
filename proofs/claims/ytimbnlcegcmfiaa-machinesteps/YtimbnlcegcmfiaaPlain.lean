/- What a step makes of a state, and what stays true of it. -/
import Derived.Test.YtimbnlcegcmfiaaPure
import Derived.Test.YtimbnlcegcmfiaaDec
namespace Go.Proofs.Ytimbnlcegcmfiaa
open Go.RowKit
set_option linter.unusedVariables false

theorem bits_or_u32 (x y : Int) : 0 ≤ bits .or .u32 x y ∧ bits .or .u32 x y < 4294967296 := by
  have h : bits .or .u32 x y = IntKind.u32.wrap _ := rfl
  rw [h, wrap_u32_mod]
  omega
theorem bits_and_u32 (x y : Int) : 0 ≤ bits .and .u32 x y ∧ bits .and .u32 x y < 4294967296 := by
  have h : bits .and .u32 x y = IntKind.u32.wrap _ := rfl
  rw [h, wrap_u32_mod]
  omega
theorem bits_xor_u32 (x y : Int) : 0 ≤ bits .xor .u32 x y ∧ bits .xor .u32 x y < 4294967296 := by
  have h : bits .xor .u32 x y = IntKind.u32.wrap _ := rfl
  rw [h, wrap_u32_mod]
  omega
theorem div_u32 (a b : Int) (a0 : 0 ≤ a) (a1 : a < 4294967296) (b0 : 0 < b) : 0 ≤ a / b ∧ a / b < 4294967296 := by
  have h1 := Int.ediv_nonneg a0 (Int.le_of_lt b0)
  have h2 := Int.ediv_le_self b a0
  omega
def U32 (x : Int) : Prop := 0 ≤ x ∧ x < 4294967296
theorem ite_u32 {c : Prop} [Decidable c] {x y : Int} (h : c → U32 x) (g : ¬ c → U32 y) : U32 (if c then x else y) := by
  by_cases hc : c
  · rw [if_pos hc]; exact h hc
  · rw [if_neg hc]; exact g hc
theorem aluV_bound (op a b : Int) (a0 : 0 ≤ a) (a1 : a < 4294967296) (b0 : 0 ≤ b) (b1 : b < 4294967296) : 0 ≤ aluV op a b ∧ aluV op a b < 4294967296 := by
  have h8 := bits_and_u32 a b
  have h9 := bits_or_u32 a b
  have h10 := bits_xor_u32 a b
  have h12 := div_u32 a (2 ^ (b % 32).toNat) a0 a1 (Int.pow_pos (by omega))
  have hm : ∀ x : Int, 0 ≤ x % 4294967296 ∧ x % 4294967296 < 4294967296 := fun x => by omega
  have h7 : ¬ b = 0 → 0 ≤ a % b ∧ a % b < 4294967296 := fun h => by
    have h1 := Int.emod_nonneg a h
    have h2 := Int.emod_lt_of_pos a (show 0 < b by omega)
    omega
  have h5 : ¬ b = 0 → 0 ≤ a / b ∧ a / b < 4294967296 := fun h => div_u32 a b a0 a1 (by omega)
  show U32 (aluV op a b)
  unfold aluV
  repeat' refine ite_u32 (fun _ => ?_) (fun _ => ?_)
  all_goals (show _ ∧ _)
  all_goals first
    | exact hm _
    | assumption
    | exact h7 (by assumption)
    | exact h5 (by assumption)
    | decide

theorem word4_bound (a b c d : Nat) (ha : a < 256) (hb : b < 256) (hc : c < 256) (hd : d < 256) : 0 ≤ word4 a b c d ∧ word4 a b c d < 4294967296 := by
  unfold word4; omega

theorem valF_bound {s : St} (hO : Ok s) (op : Int) (d a b : Nat) (i : Int) (ha : a < 16) (hb : b < 16) : 0 ≤ (valF s op d a b i).1 ∧ (valF s op d a b i).1 < 4294967296 := by
  obtain ⟨a0, a1⟩ := hO.regs a ha
  obtain ⟨b0, b1⟩ := hO.regs b hb
  unfold valF
  repeat' split
  · exact ⟨adr_lo s a i, adr_hi s a i⟩
  · show 0 ≤ i % 4294967296 ∧ i % 4294967296 < 4294967296
    omega
  · exact bits_or_u32 _ _
  · unfold ld4
    split
    · exact word4_bound _ _ _ _ (UInt8.toNat_lt _) (UInt8.toNat_lt _) (UInt8.toNat_lt _) (UInt8.toNat_lt _)
    · decide
  · unfold ld1
    split
    · have := (s.mem (adr s a i).toNat).toNat_lt
      show 0 ≤ ((s.mem (adr s a i).toNat).toNat : Int) ∧ ((s.mem (adr s a i).toNat).toNat : Int) < 4294967296
      omega
    · decide
  · exact aluV_bound _ _ _ a0 a1 b0 b1

theorem getV_bound (s : St) : 0 ≤ getV s ∧ getV s < 4294967296 := by
  unfold getV
  split
  · rename_i h
    have := s.input[s.used].toNat_lt
    omega
  · decide

theorem wr_ok {s : St} (hO : Ok s) (d : Nat) (x : Int) (hx : 0 ≤ x ∧ x < 4294967296) : (∀ i, i < 16 → 0 ≤ wr s.reg d x i ∧ wr s.reg d x i < 4294967296) ∧ wr s.reg d x 0 = 0 := by
  by_cases hd : d = 0
  · simp only [wr, if_pos hd]
    exact ⟨hO.regs, hO.zero⟩
  · simp only [wr, if_neg hd]
    refine ⟨fun i hi => ?_, ?_⟩
    · unfold upd
      split
      · exact hx
      · exact hO.regs i hi
    · unfold upd
      rw [if_neg (fun e => hd e.symm)]
      exact hO.zero

theorem Ok.trap {s : St} (hO : Ok s) (k : Int) : Ok (trapS s k) := ⟨hO.regs, hO.zero, hO.used, hO.csize, hO.isize, hO.c4, fun e => absurd e (by simp [trapS]), hO.pc0, hO.pc1⟩
theorem Ok.pc {s : St} (hO : Ok s) (k : Int) (h0 : -4294967296 ≤ k) (h1 : k ≤ 4294967296) : Ok { s with pc := k } := ⟨hO.regs, hO.zero, hO.used, hO.csize, hO.isize, hO.c4, hO.fin, h0, h1⟩
theorem Ok.reg {s : St} (hO : Ok s) (f : Nat → Int) (h : (∀ i, i < 16 → 0 ≤ f i ∧ f i < 4294967296) ∧ f 0 = 0) : Ok { s with reg := f } := ⟨h.1, h.2, hO.used, hO.csize, hO.isize, hO.c4, hO.fin, hO.pc0, hO.pc1⟩
theorem Ok.mem {s : St} (hO : Ok s) (g : Nat → UInt8) : Ok { s with mem := g } := ⟨hO.regs, hO.zero, hO.used, hO.csize, hO.isize, hO.c4, hO.fin, hO.pc0, hO.pc1⟩
theorem Ok.out {s : St} (hO : Ok s) (g : List UInt8) : Ok { s with out := g } := ⟨hO.regs, hO.zero, hO.used, hO.csize, hO.isize, hO.c4, hO.fin, hO.pc0, hO.pc1⟩
theorem Ok.get {s : St} (hO : Ok s) : Ok (getS s) := by
  unfold getS
  split
  · rename_i h
    exact ⟨hO.regs, hO.zero, h, hO.csize, hO.isize, hO.c4, hO.fin, hO.pc0, hO.pc1⟩
  · exact hO
theorem getS_reg (s : St) : (getS s).reg = s.reg := by unfold getS; split <;> rfl

theorem giF_ok {s : St} (hO : Ok s) (op : Int) (d a b : Nat) (i : Int) (ha : a < 16) (hb : b < 16) : Ok (giF s op d a b i).1 := by
  unfold giF
  split
  · exact hO.get.reg _ (by rw [← getS_reg s]; exact wr_ok hO.get d _ (getV_bound s))
  · split
    · exact hO.reg _ (wr_ok hO d _ (valF_bound hO op d a b i ha hb))
    · exact hO

theorem brF_bound {s : St} (hO : Ok s) (op : Int) (a : Nat) (i : Int) (ha : a < 16) (p0 : 0 ≤ s.pc) (p1 : s.pc < 1048576) (i0 : -8388608 ≤ i) (i1 : i ≤ 8388607) : -4294967296 ≤ brF s op a i ∧ brF s op a i ≤ 4294967296 := by
  obtain ⟨a0, a1⟩ := hO.regs a ha
  unfold brF
  repeat' split
  all_goals omega

theorem stF_ok {s : St} (hO : Ok s) (op : Int) (d a : Nat) (i : Int) : Ok (stF s op d a i).1 := by
  unfold stF
  split
  · exact hO.mem _
  · exact hO
theorem Ok.halt {s : St} (hO : Ok s) (x : Int) : Ok { s with kind := 1, exit := x } := ⟨hO.regs, hO.zero, hO.used, hO.csize, hO.isize, hO.c4, fun e => absurd e (by simp), hO.pc0, hO.pc1⟩
theorem Ok.call {s : St} (hO : Ok s) (x : Int) (hx : 0 ≤ x ∧ x < 4294967296) : Ok { s with reg := upd s.reg 14 x } :=
  hO.reg _ (by simpa [wr] using wr_ok hO 14 x hx)

theorem doF_ok {s : St} (hO : Ok s) (op : Int) (d a b : Nat) (i : Int) (K : Known op d a b i) (p0 : 0 ≤ s.pc) (p1 : s.pc < 1048576) : Ok (doF s op d a b i) := by
  have ha : a < 16 := by have := K.a1; omega
  have hb : b < 16 := by have := K.b1; omega
  obtain ⟨c0, c1⟩ := brF_bound hO op a i ha p0 p1 K.i0 K.i1
  have e0 : -4294967296 ≤ s.pc + 4 := by omega
  have e1 : s.pc + 4 ≤ 4294967296 := by omega
  have g1 := (stF_ok hO op d a i).pc _ e0 e1
  have g2 := (hO.call ((s.pc + 4) % 4294967296) (by omega)).pc _ c0 c1
  have g3 := (hO.out (s.out ++ [by8 (s.reg a)])).pc _ e0 e1
  have g4 := (giF_ok hO op d a b i ha hb).pc _ e0 e1
  unfold doF
  by_cases h1 : op = 37 ∨ op = 38
  · rw [if_pos h1]
    split
    · exact g1
    · exact hO.trap _
  · rw [if_neg h1]
    by_cases h2 : op = 39 ∨ op = 40 ∨ op = 41 ∨ op = 43
    · rw [if_pos h2]
      exact hO.pc _ c0 c1
    · rw [if_neg h2]
      by_cases h3 : op = 42
      · rw [if_pos h3]
        exact g2
      · rw [if_neg h3]
        by_cases h4 : op = 45
        · rw [if_pos h4]
          exact g3
        · rw [if_neg h4]
          by_cases h5 : op = 46
          · rw [if_pos h5]
            exact hO.trap _
          · rw [if_neg h5]
            by_cases h6 : op = 47
            · rw [if_pos h6]
              exact hO.halt _
            · rw [if_neg h6]
              split
              · exact g4
              · exact hO.trap _
end Go.Proofs.Ytimbnlcegcmfiaa
