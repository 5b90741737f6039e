/- The document's Size and Depth. -/
import Derived.Test.YtnnnfabpceapcaaGreatDoorTree
import Derived.Deep.QuietTactic
import Derived.BigQuiet
namespace Go.Proofs.YtnnnfabpceapcaaGreatDoor
open Go.RowKit
set_option linter.unusedVariables false

/-- A node's box, later. -/
theorem box6 {w w1 : World} {x : NdH} {kv : Value} (hb : Below (w.alloc (.cells #[.int .i64 x.kind, .string x.str, .int .u32 x.num, .bool x.flag, kv, .int .i64 x.pos] 25)).heap.size (w.alloc (.cells #[.int .i64 x.kind, .string x.str, .int .u32 x.num, .bool x.flag, kv, .int .i64 x.pos] 25)) w1) :
    w1.cell? ⟨w.heap.size, 0, none⟩ = some (.int .i64 x.kind) ∧ w1.cell? ⟨w.heap.size, 1, none⟩ = some (.string x.str) ∧ w1.cell? ⟨w.heap.size, 2, none⟩ = some (.int .u32 x.num) ∧ w1.cell? ⟨w.heap.size, 3, none⟩ = some (.bool x.flag) ∧ w1.cell? ⟨w.heap.size, 4, none⟩ = some kv ∧ w1.cell? ⟨w.heap.size, 5, none⟩ = some (.int .i64 x.pos) := by
  refine ⟨?_, ?_, ?_, ?_, ?_, ?_⟩
  all_goals (rw [hb.cell (by simp)]; simp [go_sem])

set_option maxHeartbeats 2000000 in
/-- counted. -/
theorem counted18 {cb : Nat} : ∀ (n : Nat) {w : World} {x : NdH} {kv : Value} {ks : List Tr} {had : Nat}, Ks cb n w kv ks → had ≤ 262144 →
    Calls Tryz.prog 27 #[ndV x kv, .int .i64 (had : Int)] w fun e w' => e = .returned (.int .i64 ((min (had + 1 + szL ks) 262145 : Nat) : Int)) ∧ Below w.heap.size w w' := fun n => by
  induction n using Nat.strongRecOn with
  | ind n ih =>
  intro w x kv ks had hK hh
  obtain ⟨hlen, ao, cap, rfl⟩ := hK.shape
  have hkid : Hid (∀ (W : World), Below w.heap.size w W → ∀ i (h : i < ks.length), ∃ b off x kv ks', ao = some ⟨b, off, none⟩ ∧ b < W.heap.size ∧ NdAt W b (off + i * 6) x kv ∧ szT ks[i] = 1 + szL ks' ∧ ∀ had : Nat, had ≤ 262144 → Calls Tryz.prog 27 #[ndV x kv, .int .i64 (had : Int)] W fun e w' => e = .returned (.int .i64 ((min (had + 1 + szL ks') 262145 : Nat) : Int)) ∧ Below W.heap.size W w') := fun W hb i hi => by
    obtain ⟨m, b, off, x', kv', ks', hm, e, ⟨hlt, hne⟩, he, hc, hk⟩ := (hK.below hb).kid i hi
    exact ⟨b, off, x', kv', ks', e, hlt, hc, by rw [he, szT_node], fun had hh => ih m hm hk hh⟩
  clear ih hK
  unfold ndV
  obtain ⟨w0, hw0⟩ : ∃ w0, w0 = w.alloc (.cells #[.int .i64 x.kind, .string x.str, .int .u32 x.num, .bool x.flag, .slice ao ks.length cap, .int .i64 x.pos] 25) := ⟨_, rfl⟩
  have hb0 : Below w.heap.size w w0 := by rw [hw0]; exact below1 _ _
  have c4 : w0.cell? ⟨w.heap.size, 4, none⟩ = some (.slice ao ks.length cap) := by rw [hw0]; simp [go_sem]
  have hl0 : w.heap.size < w0.heap.size := by rw [hw0]; simp
  have HB0 := hid' hb0
  clear hb0
  go_enter Tryz.func27, Tryz.ntmps27
  go_wp2_with fail
  rw [← hw0]
  clear hw0
  go_loopw [1, 5] (fun h i wr => ∃ k : Nat, k ≤ ks.length ∧ i = .int .i64 (k : Nat) ∧ h = .int .i64 ((min (had + 1 + szL (ks.take k)) 262145 : Nat) : Int) ∧ Below w0.heap.size w0 wr) (fun _ i _ => ks.length - (intOf i).toNat)
  case atStart => exact ⟨0, Nat.zero_le _, rfl, by rw [List.take_zero, szL_nil, Nat.add_zero, Nat.min_eq_left (by omega)]; go_num, Below.refl _ _⟩
  case round =>
    obtain ⟨k, hk, rfl, rfl, hBw⟩ := hrel
    have HBW := hid' hBw
    have d4 := (hBw.cell (p := ⟨w.heap.size, 4, none⟩) hl0).trans c4
    obtain ⟨H, hH⟩ : ∃ H, H = min (had + 1 + szL (ks.take k)) 262145 := ⟨_, rfl⟩
    rw [← hH]
    have hH1 : H ≤ 262145 := by omega
    have hl' : w.heap.size < wr.heap.size := Nat.lt_of_lt_of_le hl0 hBw.size
    by_cases hlt : k < ks.length
    · by_cases hm : H ≤ 262144
      · obtain ⟨b, off, x', kv', ks', rfl, hlb, ⟨c0, c1, c2, c3, c5, c6⟩, hsz, hC⟩ := hkid.out wr (below_on HB0.out hBw) k hlt
        have hnx : min (H + 1 + szL ks') 262145 = min (had + 1 + szL (ks.take (k + 1))) 262145 := by rw [szL_next ks k hlt, hsz, hH]; omega
        have hc := hid' (hC H hm)
        rw [hnx] at hc
        have HNX := hid' hnx
        clear hnx hC hsz hH hBw
        unfold ndV at hc
        obtain ⟨H', hH'⟩ : ∃ H', H' = min (had + 1 + szL (ks.take (k + 1))) 262145 := ⟨_, rfl⟩
        rw [← hH'] at hc
        have HH := hid' hH'
        clear hH'
        go_wp2_with (go_at_call 27; (with_reducible refine hc.out.mono ?_); rintro e w3 ⟨rfl, hb3⟩; replace hb3 := hid' hb3)
        go_roundw
        case rel => exact ⟨k + 1, by omega, by go_num, by rw [HH.out], below_on HBW.out hb3.out⟩
        case measure => simp [intOf]; omega
      · have hr : H = min (had + 1 + szL ks) 262145 := by have := szL_take_le ks k; omega
        have HR := hid' hr
        clear hr hH
        go_wp2
        go_ret
        exact ⟨by rw [← HR.out]; rfl, below_on HB0.out HBW.out⟩
    · have hk' : k = ks.length := by omega
      have hr : H = min (had + 1 + szL ks) 262145 := by rw [hH, hk', List.take_length]
      have HR := hid' hr
      clear hr hH hk'
      go_wp2
      go_ret
      exact ⟨by rw [← HR.out]; rfl, below_on HB0.out HBW.out⟩

/-- What Size and Depth tell. -/
def szR (t : Tr) : Nat := if szT t ≤ 262144 then szT t else 0
def dpR (t : Tr) : Nat := if szT t ≤ 262144 then dpT t else 0

theorem size7 {cb n : Nat} {w : World} {x : NdH} {kv : Value} {ks : List Tr} (hK : Ks cb n w kv ks) :
    Calls Tryz.prog 14 #[ndV x kv] w fun e w' => e = .returned (.int .i64 (szR (Tr.node x ks) : Int)) ∧ Below w.heap.size w w' := by
  have hC : Hid (∀ W, Below w.heap.size w W → Calls Tryz.prog 27 #[ndV x kv, .int .i64 0] W fun e w' => e = .returned (.int .i64 ((min (1 + szL ks) 262145 : Nat) : Int)) ∧ Below W.heap.size W w') := fun W hb => by
    have := counted18 n (x := x) (had := 0) (hK.below hb) (by omega)
    rw [Nat.zero_add] at this
    exact this
  have hR : Hid (∀ m : Nat, m = min (1 + szL ks) 262145 → szR (Tr.node x ks) = if m ≤ 262144 then m else 0) := fun m hm => by
    unfold szR
    rw [szT_node, hm]
    split <;> split <;> omega
  obtain ⟨m, hm⟩ : ∃ m, m = min (1 + szL ks) 262145 := ⟨_, rfl⟩
  have h1 := hR.out m hm
  have hm1 : m ≤ 262145 := by omega
  rw [← hm] at hC
  rw [h1]
  clear hR h1 hm hK
  unfold ndV at hC ⊢
  go_enter Tryz.func14, Tryz.ntmps14
  by_cases hle : m ≤ 262144
  · rw [if_pos hle]
    go_wp2_with (go_at_call 27; (with_reducible refine (hC.out _ (below1 _ _)).mono ?_); rintro e w1 ⟨rfl, hb1⟩; replace hb1 := hid' (below_call hb1))
    go_ret
    exact ⟨rfl, hb1.out⟩
  · rw [if_neg hle]
    go_wp2_with (go_at_call 27; (with_reducible refine (hC.out _ (below1 _ _)).mono ?_); rintro e w1 ⟨rfl, hb1⟩; replace hb1 := hid' (below_call hb1))
    go_ret
    exact ⟨rfl, hb1.out⟩

theorem dpL_le_szL : ∀ (l : List Tr), (∀ i (h : i < l.length), dpT l[i] ≤ szT l[i]) → dpL l ≤ szL l
  | [], _ => by rw [dpL_nil]; omega
  | t :: r, h => by
    have h0 := h 0 (by simp)
    have hr := dpL_le_szL r (fun i hi => h (i + 1) (by simpa using hi))
    rw [List.getElem_cons_zero] at h0
    rw [dpL_cons, szL_cons]
    omega
theorem Ks.deep {cb : Nat} {w : World} : ∀ {n : Nat} {v : Value} {ks : List Tr}, Ks cb n w v ks → dpL ks ≤ szL ks
  | 0, _, _, h => by
    obtain ⟨rfl, _⟩ := h
    rw [dpL_nil]
    omega
  | n + 1, v, ks, h => by
    rw [Ks] at h
    obtain ⟨hl, ao, cap, rfl, h⟩ := h
    refine dpL_le_szL ks (fun i hi => ?_)
    obtain ⟨b, off, x, kv, ks', e, hlt, he, hc, hk⟩ := h i hi
    have := Ks.deep hk
    rw [he.1, dpT_node, szT_node]
    omega
theorem sz_kid (l : List Tr) (k : Nat) (h : k < l.length) : szT l[k] ≤ szL l := by
  have h1 := szL_next l k h
  have h2 := szL_take_le l (k + 1)
  omega

end Go.Proofs.YtnnnfabpceapcaaGreatDoor
