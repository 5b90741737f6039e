/- Rows of bytes that a call owns. -/
import Derived.Test.YtfnekmhhhjdeiaaUnit
import Derived.Test.YtfnekmhhhjdeiaaNum2
import Derived.Lib.UnsafeStr
import Derived.Laws.MakeOwn
import Derived.Laws.DeepStrings4
namespace Go.Proofs.Ytfnekmhhhjdeiaa
open Go.RowKit
set_option linter.unusedVariables false

theorem info5' : (Try.prog.info? 5).map (fun i => (i.zero, i.size, i.bytes)) = some (some (.int .u8 0), 1, 1) := by kernel_rfl
def vals (l : List UInt8) : List Value := l.map fun x => Value.int .u8 (x.toNat : Int)
theorem vals_length (l : List UInt8) : (vals l).length = l.length := by simp [vals]
theorem vals_append (l m : List UInt8) : vals (l ++ m) = vals l ++ vals m := by simp [vals]
def Mark (x : Prop) : Prop := x
theorem of_mark {x : Prop} (h : Mark x) : x := h

/-- The bytes of cells, as a string. -/
theorem conv_cells {W : World} {g len cap : Nat} {l : List UInt8} (hl : l.length = len) (h : ∀ (j : Nat) (u : Value), (vals l)[j]? = some u → W.cell? ((⟨g, 0, none⟩ : Addr).add j) = some u) :
    (convert 36 9 (.slice (some ⟨g, 0, none⟩) len cap)).run Try.prog W = .ok (.string (strL l)) W := by
  have e : strL l = strOfNums (l.map fun x => (x.toNat : Int)) := by
    unfold strOfNums strL
    simp [List.map_map, Function.comp_def]
  rw [e]
  refine run_convert_bytes_arg W 36 5 Try.underlying36 Try.underlying5 g 0 len cap _ (by simpa using hl) (fun i hi => ?_) 9 Try.underlying9
  have hi' : i < l.length := by omega
  have := h i (.int .u8 (l[i].toNat : Int)) (by simp [vals, hi'])
  rw [Addr.add_lit] at this
  simpa [List.getD, hi'] using this
theorem conv_own {W : World} {N : Nat} {sl : Value} {l : List UInt8} (h : W.ownsRow N 5 1 sl l.length (vals l)) : (convert 36 9 sl).run Try.prog W = .ok (.string (strL l)) W := by
  have h' := h
  obtain ⟨_, ⟨rfl, h0⟩ | ⟨g, cap, cur, rfl, _⟩⟩ := h
  · obtain rfl : l = [] := List.eq_nil_of_length_eq_zero h0
    exact run_convert_bytes_nil W 36 5 Try.underlying36 Try.underlying5 0 0 9 Try.underlying9
  · exact conv_cells rfl (h'.cells (g := g) rfl)

theorem nonempty {s : ByteArray} (h : 0 < s.size) : (s.toList == []) = false := by
  rw [ByteArray.toList_eq, Bool.eq_false_iff]
  intro e
  have e2 : s.data.toList.length = 0 := by rw [eq_of_beq e]; rfl
  rw [size_list] at e2
  omega
theorem empty_eq {s : ByteArray} (h : ¬ 0 < s.size) : s = ⟨#[]⟩ := ext_list (List.eq_nil_of_length_eq_zero (by rw [size_list]; omega))

set_option maxHeartbeats 2000000 in
theorem unit55 (s : ByteArray) (mk : UInt8) (w : World) : Calls Try.prog 55 #[.string s, byteV mk] w fun e w' => e = .returned (unitV (unitF mk (lst s))) ∧ ∃ n, w' = w.drewN n := by
  by_cases h : 0 < s.size
  · have h0 : (0 : Int) < s.size := by omega
    have hne := nonempty h
    have hl := lst_cons0 s h
    have hr : unitF mk (lst s) = if s[0].toNat = mk.toNat ∨ plainB s[0] = false then none else if s[0].toNat = 92 then escF ((lst s).drop 1) else some (s[0], 1) := by
      rw [hl]; rfl
    replace hr := hid hr
    clear hl
    have hc := escape68 s
    generalize unitF mk (lst s) = X at hr ⊢
    generalize escF ((lst s).drop 1) = Y at hr hc
    rcases Y with _ | ⟨b, m⟩
    · simp only [unitV] at hc
      go_enter Try.func55, Try.ntmps55
      go_wp2_with (first
        | (go_at_call 68; refine (hc _).mono ?_; rintro e w1 ⟨rfl, nq, rfl⟩)
        | (go_at_call 49; refine (isPlain49 _ _).mono ?_; rintro e w1 ⟨rfl, rfl⟩))
      all_goals clear hc
      all_goals (try simp only [beq_iff_eq, beq_eq_false_iff_ne, ne_eq] at *)
      · rw [show X = none from hr.out.trans (if_pos (.inl (by omega)))]
        exact bodyPost_ret (v := unitV none) (by simp [results, Try.results55, go_sem, unitV]) rfl ⟨rfl, 0, rfl⟩
      · have hp : plainB s[0] = false := by simp_all
        rw [show X = none from hr.out.trans (if_pos (.inr hp))]
        exact bodyPost_ret (v := unitV none) (by simp [results, Try.results55, go_sem, unitV]) rfl ⟨rfl, 0, rfl⟩
      · have hp : plainB s[0] = true := by simp_all
        rw [show X = none from hr.out.trans ((if_neg (by rw [hp]; simp; omega)).trans (if_pos (by omega)))]
        exact bodyPost_ret (v := unitV (none)) (by simp [results, Try.results55, go_sem, unitV]) rfl ⟨rfl, nq, rfl⟩
      · have hp : plainB s[0] = true := by simp_all
        rw [show X = some (s[0], 1) from hr.out.trans ((if_neg (by rw [hp]; simp; omega)).trans (if_neg (by omega)))]
        exact bodyPost_ret (v := unitV (some (s[0], 1))) (by simp [results, Try.results55, go_sem, unitV]) rfl ⟨rfl, 0, rfl⟩
    · simp only [unitV] at hc
      go_enter Try.func55, Try.ntmps55
      go_wp2_with (first
        | (go_at_call 68; refine (hc _).mono ?_; rintro e w1 ⟨rfl, nq, rfl⟩)
        | (go_at_call 49; refine (isPlain49 _ _).mono ?_; rintro e w1 ⟨rfl, rfl⟩))
      all_goals clear hc
      all_goals (try simp only [beq_iff_eq, beq_eq_false_iff_ne, ne_eq] at *)
      · rw [show X = none from hr.out.trans (if_pos (.inl (by omega)))]
        exact bodyPost_ret (v := unitV none) (by simp [results, Try.results55, go_sem, unitV]) rfl ⟨rfl, 0, rfl⟩
      · have hp : plainB s[0] = false := by simp_all
        rw [show X = none from hr.out.trans (if_pos (.inr hp))]
        exact bodyPost_ret (v := unitV none) (by simp [results, Try.results55, go_sem, unitV]) rfl ⟨rfl, 0, rfl⟩
      · have hp : plainB s[0] = true := by simp_all
        rw [show X = some (b, m) from hr.out.trans ((if_neg (by rw [hp]; simp; omega)).trans (if_pos (by omega)))]
        exact bodyPost_ret (v := unitV (some (b, m))) (by simp [results, Try.results55, go_sem, unitV]) rfl ⟨rfl, nq, rfl⟩
      · have hp : plainB s[0] = true := by simp_all
        rw [show X = some (s[0], 1) from hr.out.trans ((if_neg (by rw [hp]; simp; omega)).trans (if_neg (by omega)))]
        exact bodyPost_ret (v := unitV (some (s[0], 1))) (by simp [results, Try.results55, go_sem, unitV]) rfl ⟨rfl, 0, rfl⟩
  · obtain rfl := empty_eq h
    go_enter Try.func55, Try.ntmps55
    go_wp2
    exact bodyPost_ret (v := unitV none) (by simp [results, Try.results55, go_sem, unitV]) rfl ⟨rfl, 0, rfl⟩

theorem below_more {w w0 : World} (h : Below w.heap.size w w0) (o : Obj) : Below w.heap.size w (w0.alloc o) := h.alloc h.size o
theorem alloc_drewN (w : World) (o : Obj) (n : Nat) : (w.alloc o).drewN n = (w.drewN n).alloc o := rfl
theorem ext_at (s : ByteArray) (k : Nat) (mk : UInt8) (w : World) : Calls Try.prog 55 #[.string (s.extract k s.size), byteV mk] w fun e w' => e = .returned (unitV (unitF mk ((lst s).drop k))) ∧ ∃ n, w' = w.drewN n := by
  rw [← lst_ext]; exact unit55 _ mk w

set_option maxHeartbeats 2000000 in
theorem character39 (s : ByteArray) (hs : s.size < 4611686018427387904) (h0 : 0 < s.size) (hm : s[0].toNat = 39) (w : World) :
    Calls Try.prog 39 #[.string s] w fun e w' => e = .returned (readV (charF (lst s))) ∧ Below w.heap.size w w' := by
  have h0' : (0 : Int) < s.size := by omega
  have h1' : (1 : Int) ≤ s.size := by omega
  have hm1 : s[0] = 39 := UInt8.toNat_inj.1 hm
  have hc := ext_at s 1 s[0]
  have e1 : unitF s[0] ((lst s).drop 1) = unitF 39 ((lst s).drop 1) := by rw [hm1]
  rw [e1] at hc
  clear hm hm1 e1
  have hlen := lst_len s
  cases hu : unitF 39 ((lst s).drop 1) with
  | none =>
    have hX : Hid (charF (lst s) = none) := by show charF (lst s) = none; unfold charF; rw [hu]
    rw [hu] at hc
    simp only [unitV] at hc
    clear hu
    generalize charF (lst s) = X at hX ⊢
    go_enter Try.func39, Try.ntmps39
    go_wp2
    go_quiet (with_reducible exact Calls.quiet_of (hc _))
    obtain ⟨w0, hw0⟩ : ∃ w0, w0 = w.drewN nq := ⟨_, rfl⟩
    have hz : w.heap.size = w0.heap.size := by rw [hw0]; rfl
    have hB0 := hid (show Below w.heap.size w w0 by rw [hw0]; exact below_drewN w nq)
    rw [alloc_drewN, ← hw0, hz]
    clear hw0 hz
    go_wp2
    rw [hX.out]
    exact bodyPost_ret (v := readV none) (by simp [results, Try.results39, go_sem, readV, zeroV]) rfl ⟨rfl, below_more hB0.out _⟩
  | some p =>
    obtain ⟨b, n⟩ := p
    have hn := unitF_len hu
    rw [List.length_drop] at hn
    have hX : charF (lst s) = if [39].isPrefixOf ((lst s).drop (1 + n)) then some (⟨6, [], b.toNat, false⟩, n + 2) else none := by unfold charF; rw [hu]
    replace hX := hid hX
    rw [hu] at hc
    simp only [unitV] at hc
    have hn2 : (1 : Int) + n ≤ s.size := by omega
    have hn3 : 1 ≤ n := hn.1
    have hp := fun w => hasPrefix34 (s.extract (1 + n) s.size) ⟨#[39]⟩ [39] rfl w
    rw [lst_ext] at hp
    clear hu hn hlen
    generalize charF (lst s) = X at hX ⊢
    generalize [39].isPrefixOf ((lst s).drop (1 + n)) = B at hX hp
    have hb := b.toNat_lt
    go_enter Try.func39, Try.ntmps39
    go_wp2
    go_quiet (with_reducible exact Calls.quiet_of (hc _))
    obtain ⟨w0, hw0⟩ : ∃ w0, w0 = w.drewN nq := ⟨_, rfl⟩
    have hz : w.heap.size = w0.heap.size := by rw [hw0]; rfl
    have hB0 := hid (show Below w.heap.size w w0 by rw [hw0]; exact below_drewN w nq)
    rw [alloc_drewN, ← hw0, hz]
    clear hw0 hz
    go_wp2_with (go_at_call 34; refine (hp _).mono ?_; rintro e w1 ⟨rfl, rfl⟩)
    all_goals (try simp only [beq_iff_eq, beq_eq_false_iff_ne, ne_eq] at *)
    · have hB : B = false := by (cases B <;> simp_all)
      subst hB
      rw [show X = none from hX.out]
      exact bodyPost_ret (v := readV none) (by simp [results, Try.results39, go_sem, readV, zeroV]) rfl ⟨rfl, below_more hB0.out _⟩
    · have hB : B = true := by (cases B <;> simp_all)
      subst hB
      rw [show X = some (⟨6, [], b.toNat, false⟩, n + 2) from hX.out]
      refine bodyPost_ret (v := .tuple #[tokV ⟨6, [], b.toNat, false⟩ 0 0, .int .i64 (1 + (n : Int) + 1)]) (by simp [results, Try.results39, go_sem, tokV, strL]) rfl ⟨ret_v ?_, below_more hB0.out _⟩
      show Value.tuple #[_, Value.int .i64 _] = Value.tuple #[_, Value.int .i64 _]
      rw [show (1 + (n : Int) + 1) = ((n + 2 : Nat) : Int) by omega]

end Go.Proofs.Ytfnekmhhhjdeiaa
