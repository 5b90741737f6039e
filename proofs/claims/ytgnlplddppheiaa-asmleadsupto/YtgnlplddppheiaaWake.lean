/- awake; names do not matter. -/
import Derived.Test.YtgnlplddppheiaaOps
namespace Go.Proofs.Ytgnlplddppheiaa
open Go.RowKit Go.Maps
set_option linter.unusedVariables false

theorem AsmIs.unique {ls : List Ln} {s s' : ByteArray} {e e' : Int} (h : AsmIs ls s e) (h' : AsmIs ls s' e') : s = s' ∧ e = e' := by
  rcases h with ⟨h1, h2, h3⟩ | ⟨h1, S, hS, hr⟩ <;> rcases h' with ⟨h1', h2', h3'⟩ | ⟨h1', S', hS', hr'⟩
  · exact ⟨h3.trans h3'.symm, h1.unique h1'⟩
  · exact absurd (h1.unique h1') h2
  · exact absurd (h1'.unique h1) h2'
  · rw [hS'.unique hS] at hr'
    rcases hr with ⟨a, rfl, rfl⟩ | ⟨a, rfl, rfl⟩ <;> rcases hr' with ⟨b, rfl, rfl⟩ | ⟨b, rfl, rfl⟩
    · exact ⟨rfl, rfl⟩
    · omega
    · omega
    · exact ⟨rfl, rfl⟩

def aw : List Ln := [⟨1, 0, 0, 0, 0, 0, 0⟩, ⟨0, 32, 1, 1, 0, -1, 0⟩, ⟨0, 40, 0, 1, 0, 0, 1⟩]
def awS : ByteArray := ⟨#[255, 255, 17, 32, 254, 255, 1, 40]⟩
theorem aw_is : AsmIs aw awS 0 := by
  refine .inr ⟨.inr (.inr (.inr ⟨by decide, ?_, by decide, ?_, rfl⟩)), fun _ => false, ⟨?_, ?_⟩, .inr ⟨by decide, by decide, rfl⟩⟩
  · intro x hx
    simp [aw] at hx
    rcases hx with rfl | rfl | rfl <;> decide
  · intro x hx
    simp [aw] at hx
    rcases hx with rfl | rfl | rfl <;> decide
  · intro b hb _
    have e : bsOf aw = [⟨1, 0, 1⟩] := by rfl
    rw [e] at hb
    simp at hb
    subst hb
    decide
  · intro S' _ p hp
    cases hp

set_option maxRecDepth 100000 in
set_option maxHeartbeats 2000000 in
theorem awake13 (w : World) : Calls Try.prog 13 #[] w fun e w' => e = .returned (.bool true) ∧ Below w.heap.size w w' := by
  have hA : ∀ W : World, IsLns W (.slice (some ⟨w.heap.size, 0, none⟩) 3 3) aw → Calls Try.prog 8 #[.slice (some ⟨w.heap.size, 0, none⟩) 3 3] W fun e w' => e = .returned (.tuple #[.string awS, .int .i64 0]) ∧ Below W.heap.size W w' := fun W hW => by
    refine (assemble8 hW).mono ?_
    rintro e w' ⟨s, er, rfl, hs, hb⟩
    obtain ⟨rfl, rfl⟩ := aw_is.unique hs
    exact ⟨rfl, hb⟩
  have HA := hid' hA
  clear hA
  go_enter Try.func13, Try.ntmps13
  go_wp2_with (go_at_call 8; refine of_mark ?_)
  unfold Mark
  refine (HA.out _ ?_).mono ?_
  · refine ⟨by decide, ?_, .inr ⟨by decide, w.heap.size, 3, rfl, by simp, ?_⟩⟩
    · intro x hx
      simp [aw] at hx
      rcases hx with rfl | rfl | rfl <;> constructor <;> decide
    · intro i hi
      have : i = 0 ∨ i = 1 ∨ i = 2 := by simp [aw] at hi; omega
      rcases this with rfl | rfl | rfl <;> simp [aw, go_sem]
  · rintro e w1 ⟨rfl, hb1⟩
    have HB := hid' hb1
    clear hb1
    unfold awS
    go_wp2
    go_ret
    exact ⟨rfl, below_call HB.out⟩

/-- A label's other number. -/
def nm (y n : Int) : Int := if 0 < n then n * 3 + y else n
def ren (y : Int) (x : Ln) : Ln := { x with label := nm y x.label, to := nm y x.to }

section
variable {y : Int} (hy : 0 ≤ y)
include hy
theorem nm_zero (n : Int) : nm y n = 0 ↔ n = 0 := by unfold nm; split <;> omega
theorem nm_pos (n : Int) : 0 < nm y n ↔ 0 < n := by unfold nm; split <;> omega
theorem nm_inj {m n : Int} (h : nm y m = nm y n) : m = n := by unfold nm at h; split at h <;> split at h <;> omega
theorem ren_ok (x : Ln) : (ren y x).ok = x.ok := by
  unfold ren Ln.ok
  simp only
  have h1 := nm_zero hy x.label
  have h2 := nm_pos hy x.label
  have h3 := nm_zero hy x.to
  have h4 := nm_pos hy x.to
  have e1 : decide (0 < nm y x.label) = decide (0 < x.label) := by simp [h2]
  have e2 : (nm y x.to == 0) = (x.to == 0) := by
    rw [Bool.eq_iff_iff]; simp [h3]
  have e3 : decide (0 ≤ nm y x.to) = decide (0 ≤ x.to) := by
    have : 0 ≤ nm y x.to ↔ 0 ≤ x.to := by constructor <;> intro h <;> by_cases q : x.to = 0 <;> simp_all <;> omega
    simp [this]
  rw [e1, e2, e3]
  by_cases q : x.label = 0
  · rw [if_pos q, if_pos (h1.2 q)]
  · rw [if_neg q, if_neg (fun e => q (h1.1 e))]
theorem ren_labL (ls : List Ln) : labL (ls.map (ren y)) = (labL ls).map (nm y) := by
  induction ls with
  | nil => rfl
  | cons x r ih =>
    rw [List.map_cons, show labL (ren y x :: r.map (ren y)) = labL [ren y x] ++ labL (r.map (ren y)) from labL_append [_] _, show labL (x :: r) = labL [x] ++ labL r from labL_append [x] r, ih, List.map_append, labL_one, labL_one]
    have h1 := nm_zero hy x.label
    rw [show (ren y x).label = nm y x.label from rfl]
    by_cases q : x.label = 0
    · rw [if_pos q, if_pos (h1.2 q)]; rfl
    · rw [if_neg q, if_neg (fun e => q (h1.1 e))]; rfl
theorem ren_insN (ls : List Ln) : insN (ls.map (ren y)) = insN ls := by
  have h1 := ins_lab ls
  have h2 := ins_lab (ls.map (ren y))
  rw [ren_labL hy, List.length_map, List.length_map] at h2
  omega
theorem ren_labs (ls : List Ln) (n : Int) : labs (ls.map (ren y)) (nm y n) = labs ls n := by
  induction ls with
  | nil => rfl
  | cons x r ih =>
    rw [List.map_cons, labs, labs, ih]
    have h1 := nm_zero hy x.label
    rw [show (ren y x).label = nm y x.label from rfl]
    by_cases q : x.label = 0
    · rw [if_pos q, if_pos (h1.2 q)]
    · rw [if_neg q, if_neg (fun e => q (h1.1 e))]
      by_cases q2 : x.label = n
      · rw [if_pos q2, if_pos (show nm y x.label = nm y n by rw [q2])]
      · rw [if_neg q2, if_neg (fun e => q2 (nm_inj hy e))]
theorem ren_brGo (f f' : Int → Option Nat) (hf : ∀ n, f' (nm y n) = f n) (ls : List Ln) : ∀ k, brGo f' k (ls.map (ren y)) = brGo f k ls := by
  induction ls with
  | nil => intro k; rfl
  | cons x r ih =>
    intro k
    rw [List.map_cons, brGo, brGo, ih, ih]
    have h1 := nm_zero hy x.label
    rw [show (ren y x).label = nm y x.label from rfl]
    have h3 := nm_zero hy x.to
    have e : (ren y x).to = nm y x.to := rfl
    have e' : (ren y x).op = x.op := rfl
    rw [e, e', hf]
    have c : (nm y x.to ≠ 0 ∧ askF x.op = true) ↔ (x.to ≠ 0 ∧ askF x.op = true) := by rw [Ne, h3]
    by_cases q : x.label = 0
    · rw [if_pos q, if_pos (h1.2 q)]
      by_cases q2 : x.to ≠ 0 ∧ askF x.op = true
      · rw [if_pos q2, if_pos (c.2 q2)]
      · rw [if_neg q2, if_neg (fun e => q2 (c.1 e))]
    · rw [if_neg q, if_neg (fun e => q (h1.1 e))]
theorem ren_lineB (f f' : Int → Option Nat) (hf : ∀ n, f' (nm y n) = f n) (S : Nat → Bool) (k : Nat) (x : Ln) : lineB f' S k (ren y x) = lineB f S k x := by
  have h3 := nm_zero hy x.to
  unfold lineB
  show (if nm y x.to = 0 then _ else if S k = true then _ ++ wdL (wdI 41 0 0 0 ((atF S ((f' (nm y x.to)).getD 0) : Int) - _)) else wdL (wdI x.op x.d x.a x.b ((atF S ((f' (nm y x.to)).getD 0) : Int) - _))) = _
  rw [hf]
  by_cases q : x.to = 0
  · rw [if_pos q, if_pos (h3.2 q)]; rfl
  · rw [if_neg q, if_neg (fun e => q (h3.1 e))]; rfl
theorem ren_codeGo (f f' : Int → Option Nat) (hf : ∀ n, f' (nm y n) = f n) (S : Nat → Bool) (ls : List Ln) : ∀ k, codeGo f' S k (ls.map (ren y)) = codeGo f S k ls := by
  induction ls with
  | nil => intro k; rfl
  | cons x r ih =>
    intro k
    rw [List.map_cons, codeGo, codeGo, ih, ih, ren_lineB hy f f' hf]
    have h1 := nm_zero hy x.label
    rw [show (ren y x).label = nm y x.label from rfl]
    by_cases q : x.label = 0
    · rw [if_pos q, if_pos (h1.2 q)]
    · rw [if_neg q, if_neg (fun e => q (h1.1 e))]
theorem ren_mem (l : List Int) (n : Int) : nm y n ∈ l.map (nm y) ↔ n ∈ l := by
  constructor
  · intro h
    obtain ⟨m, hm, e⟩ := List.mem_map.1 h
    rw [← nm_inj hy e]; exact hm
  · exact fun h => List.mem_map.2 ⟨n, h, rfl⟩
theorem ren_nodup (l : List Int) : (l.map (nm y)).Nodup ↔ l.Nodup := by
  induction l with
  | nil => simp
  | cons x r ih => rw [List.map_cons, List.nodup_cons, List.nodup_cons, ih, ren_mem hy]
theorem ren_err {ls : List Ln} {e : Int} (h : ErrIs (ls.map (ren y)) e) : ErrIs ls e := by
  have hl : (ls.map (ren y)).length = ls.length := by simp
  rcases h with ⟨a1, a2⟩ | ⟨a1, ⟨x, hx, ha⟩, a2⟩ | ⟨a1, a2, a3, a4⟩ | ⟨a1, a2, a3, a4, a5⟩
  · exact .inl ⟨by omega, a2⟩
  · obtain ⟨z, hz, rfl⟩ := List.mem_map.1 hx
    exact .inr (.inl ⟨by omega, ⟨z, hz, by rw [← ren_ok hy]; exact ha⟩, a2⟩)
  · refine .inr (.inr (.inl ⟨by omega, fun x hx => by rw [← ren_ok hy]; exact a2 _ (List.mem_map.2 ⟨x, hx, rfl⟩), ?_, a4⟩))
    rw [ren_labL hy, ren_nodup hy] at a3
    rcases a3 with a3 | ⟨x, hx, h1, h2⟩
    · exact .inl a3
    · obtain ⟨z, hz, rfl⟩ := List.mem_map.1 hx
      exact .inr ⟨z, hz, fun e => h1 ((nm_zero hy _).2 e), fun e => h2 ((ren_mem hy _ _).2 e)⟩
  · refine .inr (.inr (.inr ⟨by omega, fun x hx => by rw [← ren_ok hy]; exact a2 _ (List.mem_map.2 ⟨x, hx, rfl⟩), ?_, fun x hx ht => ?_, a5⟩))
    · rwa [ren_labL hy, ren_nodup hy] at a3
    · have := a4 (ren y x) (List.mem_map.2 ⟨x, hx, rfl⟩) (fun e => ht ((nm_zero hy _).1 e))
      rw [ren_labL hy] at this
      exact (ren_mem hy _ _).1 this
theorem ren_asm {ls : List Ln} {s : ByteArray} {e : Int} (h : AsmIs (ls.map (ren y)) s e) : AsmIs ls s e := by
  have hf := ren_labs hy ls
  rcases h with ⟨h1, h2, h3⟩ | ⟨h1, S, hS, hr⟩
  · exact .inl ⟨ren_err hy h1, h2, h3⟩
  · refine .inr ⟨ren_err hy h1, S, ?_, ?_⟩
    · unfold bsOf at *
      rwa [ren_brGo hy _ _ hf] at hS
    · rwa [ren_insN hy, ren_codeGo hy _ _ hf] at hr
end
end Go.Proofs.Ytgnlplddppheiaa
