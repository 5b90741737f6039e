/- A number's token, by the document. -/
import Derived.Test.YtjeioblhpfogfaaGreatDoorX01
import Derived.Deep.DeepCutAuto
import Derived.Deep.CutBlock
set_option linter.unusedVariables false
set_option linter.unusedSimpArgs false
set_option maxRecDepth 20000
set_option maxHeartbeats 8000000
namespace Go.Proofs.YtjeioblhpfogfaaGreatDoorLx
open Go.RowKit

/-- What the document's token, number and quoted answer: a token, and whether it may be. -/
def TokP (p : Nat) : Option (Tok × Nat) → Ending → Prop
  | none, e => ∃ (k : Int) (t : ByteArray) (m : Int) (u : Bool) (a b : Int), e = .returned (.tuple #[.agg #[.int .i64 k, .string t, .int .u32 m, .bool u, .int .i64 a, .int .i64 b], .bool false])
  | some (t, n), e => e = .returned (.tuple #[tokV t (p : Nat) ((p + n : Nat) : Int), .bool true])

theorem head_byte {p : UInt8 → Bool} (h : p 0 = false) (l : List UInt8) : headIs p l = p (byteAt l) := by
  match l with
  | [] => exact h.symm
  | c :: r => rfl
/-- Behind a number, by two bytes. -/
theorem numEnd_bytes (v n : Nat) (l : List UInt8) : numEnd v n l = if isU (byteAt (l.drop n)) then (if nm (byteAt (l.drop (n + 1))) then none else some (⟨5, [], v, true⟩, n + 1)) else (if nm (byteAt (l.drop n)) then none else some (⟨5, [], v, decide (2147483648 ≤ v)⟩, n)) := by
  unfold numEnd
  rw [head_byte (p := isU) (by decide)]
  cases h : isU (byteAt (l.drop n))
  · simp only [Bool.false_eq_true, if_false, Bool.or_false]
    rw [head_byte (p := nm) (by decide)]
  · simp only [if_true, Bool.or_true]
    rw [head_byte (p := nm) (by decide)]
section
variable {v n : Nat} {l : List UInt8} {c d : UInt8}
theorem F1 (hc : byteAt (l.drop n) = c) (h1 : isU c = false) (h2 : letr c = false) (h3 : dig c = false) : numEnd v n l = some (⟨5, [], v, decide (2147483648 ≤ v)⟩, n) := by
  rw [numEnd_bytes, hc, h1, if_neg (by simp), if_neg (by unfold nm; rw [h2, h3]; simp)]
theorem F2 (hc : byteAt (l.drop n) = c) (h1 : isU c = false) (h2 : nm c = true) : numEnd v n l = none := by
  rw [numEnd_bytes, hc, h1, if_neg (by simp), if_pos h2]
theorem F3 (hc : byteAt (l.drop n) = c) (hd : byteAt (l.drop (n + 1)) = d) (h1 : isU c = true) (h2 : letr d = false) (h3 : dig d = false) : numEnd v n l = some (⟨5, [], v, true⟩, n + 1) := by
  rw [numEnd_bytes, hc, h1, if_pos rfl, hd, if_neg (by unfold nm; rw [h2, h3]; simp)]
theorem F4 (hc : byteAt (l.drop n) = c) (hd : byteAt (l.drop (n + 1)) = d) (h1 : isU c = true) (h2 : nm d = true) : numEnd v n l = none := by
  rw [numEnd_bytes, hc, h1, if_pos rfl, hd, if_pos h2]
end
theorem nm_l {c : UInt8} (h : letr c = true) : nm c = true := by unfold nm; rw [h]; rfl
theorem nm_d {c : UInt8} (h : dig c = true) : nm c = true := by unfold nm; rw [h]; simp

theorem tokP_num {p n v : Nat} {u : Bool} {x y z : Int} (hx : x = (v : Int)) (hy : y = p) (hz : z = (p : Int) + n) : TokP p (some (⟨5, [], v, u⟩, n)) (.returned (.tuple #[.agg #[.int .i64 5, .string ⟨#[]⟩, .int .u32 x, .bool u, .int .i64 y, .int .i64 z], .bool true])) := by
  subst hx hy hz
  show _ = _
  rw [Int.natCast_add]
  rfl
theorem dec_nat (v : Nat) : decide ((2147483648 : Int) ≤ v) = decide (2147483648 ≤ v) := by
  rcases Nat.lt_or_ge v 2147483648 with h | h
  · rw [decide_eq_false (by omega), decide_eq_false (by omega)]
  · rw [decide_eq_true (by omega), decide_eq_true (by omega)]
abbrev zBox : Obj := .cells #[.int .i64 0, .string ⟨#[]⟩, .int .u32 0, .bool false, .int .i64 0, .int .i64 0] 42
abbrev numBox (k0 : Nat) (u : Bool) : Obj := .cells #[.int .i64 5, .string ⟨#[]⟩, .int .u32 0, .bool u, .int .i64 (k0 : Int), .int .i64 0] 42
theorem vb {a b : Bool} (h : a = b) : Value.bool a = Value.bool b := by rw [h]

set_option maxHeartbeats 16000000 in
theorem number43_at (s : ByteArray) (k0 base f : Nat) (b1 b2 : Bool) (hk : k0 < s.size) (hs : s.size < 4294967281)
    (c1 : ∀ w, Calls Tryz.prog 113 #[.string s, .int .i64 (k0 : Int), .string ⟨#[48, 120]⟩] w fun e w' => e = .returned (.bool b1) ∧ w' = w)
    (c2 : ∀ w, Calls Tryz.prog 113 #[.string s, .int .i64 (k0 : Int), .string ⟨#[48, 88]⟩] w fun e w' => e = .returned (.bool b2) ∧ w' = w)
    (hbf : ((b1 || b2) = true ∧ base = 16 ∧ f = k0 + 2) ∨ ((b1 || b2) = false ∧ base = 10 ∧ f = k0)) (hf : f ≤ s.size) (w : World) :
    Calls Tryz.prog 116 #[.string s, .int .i64 (k0 : Int)] w fun e w' => TokP k0 (numAt base (f - k0) ((lst s).drop k0)) e ∧ Below w.heap.size w w' := by
  obtain ⟨X, hX⟩ : ∃ X, X = numAt base (f - k0) ((lst s).drop k0) := ⟨_, rfl⟩
  rw [← hX]
  replace hX := hid hX
  obtain ⟨B, hB⟩ : ∃ B, B = (b1 || b2) := ⟨_, rfl⟩
  rw [← hB] at hbf
  replace hB := hid hB
  have HBF := hid hbf
  have hb16 : base ≤ 16 := by omega
  have hb10 : 10 ≤ base := by omega
  have hf0 : k0 ≤ f := by omega
  clear hbf
  go_enter Tryz.func116, Tryz.ntmps116
  go_upto_region 4 with fail
  go_cut [22] (fun b wx => b = .bool B ∧ wx = (w.alloc zBox).alloc (numBox k0 false))
  case first =>
    cases b1
    · go_wp2_with (first
        | (go_at_call 113; (with_reducible refine (c1 _).mono ?_); rintro e w1 ⟨rfl, rfl⟩)
        | (go_at_call 113; (with_reducible refine (c2 _).mono ?_); rintro e w1 ⟨rfl, rfl⟩))
      go_meet
      case rel => exact ⟨vb hB.out.symm, rfl⟩
    · go_wp2_with (first
        | (go_at_call 113; (with_reducible refine (c1 _).mono ?_); rintro e w1 ⟨rfl, rfl⟩)
        | (go_at_call 113; (with_reducible refine (c2 _).mono ?_); rintro e w1 ⟨rfl, rfl⟩))
      go_meet
      case rel => exact ⟨vb hB.out.symm, rfl⟩
  case rest =>
    obtain ⟨rfl, rfl⟩ := hcut
    clear c1 c2 hB
    go_upto_if 22 with fail
    go_cut [7, 8] (fun x y wx => x = .int .i64 (base : Nat) ∧ y = .int .i64 (f : Nat) ∧ wx = (w.alloc zBox).alloc (numBox k0 false))
    case first =>
      rcases HBF.out with ⟨rfl, rfl, h3⟩ | ⟨rfl, rfl, h3⟩
      · go_wp2
        go_meet
        case rel => exact ⟨rfl, vi (by omega), rfl⟩
      · go_wp2
        go_meet
        case rel => exact ⟨rfl, vi (by omega), rfl⟩
    case rest =>
      obtain ⟨rfl, rfl, rfl⟩ := hcut
      obtain ⟨A, hA⟩ : ∃ A, A = (digG base 0 ((lst s).drop f)).1 := ⟨_, rfl⟩
      obtain ⟨E, hE⟩ : ∃ E, E = f + (digG base 0 ((lst s).drop f)).2 := ⟨_, rfl⟩
      replace hA := hid hA
      replace hE := hid hE
      go_upto_block 0 with fail
      go_cut [8, 10, 11] (fun i n o wx => i = .int .i64 (E : Nat) ∧ n = .int .u64 (A : Nat) ∧ (∃ b : Bool, o = .bool b ∧ Hid (b = true ↔ A < 4294967296)) ∧ E ≤ s.size ∧ wx = (w.alloc zBox).alloc (numBox k0 false))
      case first =>
        go_wp2_with fail
        go_loop [8, 10, 11] (fun i n o => ∃ j v : Nat, f ≤ j ∧ j ≤ s.size ∧ v ≤ 4294967296 ∧ i = .int .i64 (j : Nat) ∧ n = .int .u64 (v : Nat) ∧ (∃ b : Bool, o = .bool b ∧ Hid (b = true ↔ v < 4294967296)) ∧ A = (digG base v ((lst s).drop j)).1 ∧ E = j + (digG base v ((lst s).drop j)).2) (fun i _ _ => s.size - (intOf i).toNat)
        case atStart => exact ⟨f, 0, Nat.le_refl _, hf, by omega, rfl, rfl, ⟨true, rfl, by show _ ↔ _; simp⟩, hA.out, hE.out⟩
        case round =>
          obtain ⟨j, v, hj0, hj, hv, rfl, rfl, ⟨ob, rfl, hob⟩, hA1, hE1⟩ := hrel
          have hA2 := hid hA1
          have hE2 := hid hE1
          clear hA1 hE1
          by_cases hgo : ∃ h : j < s.size, hexv s[j] < base
          · obtain ⟨hlt, hd⟩ := hgo
            have hl := hid (lst_cons s j hlt)
            have hcall : ∀ w, Calls Tryz.prog 165 #[byteV s[j]] w fun e w' => e = .returned (.int .i64 (hexv s[j] : Nat)) ∧ w' = w := by rw [← hex9_eq (by omega)]; exact hex57 s[j]
            obtain ⟨x, hx'⟩ : ∃ x, x = hexv s[j] := ⟨_, rfl⟩
            rw [← hx'] at hcall hd
            replace hx' := hid hx'
            have hmul : v * base ≤ 4294967296 * 16 := Nat.mul_le_mul hv hb16
            have hm1 : ((v : Int) * (base : Int)) ≤ 68719476736 := by (have : ((v * base : Nat) : Int) ≤ 68719476736 := by omega); rwa [Int.natCast_mul] at this
            have hm0 : 0 ≤ ((v : Int) * (base : Int)) := by (have : 0 ≤ ((v * base : Nat) : Int) := by omega); rwa [Int.natCast_mul] at this
            clear hmul
            have hd' : (x : Int) < base := by omega
            go_upto_region 12 with (go_at_call 165; (with_reducible refine (hcall _).mono ?_); rintro e w1 ⟨rfl, rfl⟩)
            have hy := dig_yes (v := v) (r := (lst s).drop (j + 1)) (show hexv s[j] < base by rw [← hx'.out]; exact hd)
            rw [← hl.out, ← hx'.out] at hy
            have hA3 := hA2.out
            have hE3 := hE2.out
            rw [hy] at hA3 hE3
            obtain ⟨q, hq⟩ : ∃ q : Nat, q = v * base + x := ⟨_, rfl⟩
            rw [← hq] at hA3 hE3
            have hqI : (v : Int) * (base : Int) + (x : Int) = (q : Int) := by rw [hq, Int.natCast_add, Int.natCast_mul]
            rw [hqI]
            have hge : v * 10 ≤ v * base := Nat.mul_le_mul_left v hb10
            have hqv : v * 10 ≤ q := by omega
            clear hy hA2 hE2 hm1 hm0 hqI hge hq hcall hd hd' hl hx'
            by_cases hbig : 4294967296 ≤ q
            · rw [show min q 4294967296 = 4294967296 from Nat.min_eq_right hbig] at hA3 hE3
              have hbig' : (4294967296 : Int) ≤ q := by omega
              clear hbig
              have HA3 := hid hA3
              have HE3 := hid hE3
              clear hA3 hE3
              go_wp2
              exact ⟨⟨j + 1, 4294967296, by omega, by omega, Nat.le_refl _, vi (by omega), rfl, ⟨false, rfl, by show _ ↔ _; simp⟩, HA3.out, by rw [HE3.out]; show j + (_ + 1) = j + 1 + _; omega⟩, by simp [intOf]; omega⟩
            · rw [show min q 4294967296 = q from Nat.min_eq_left (by omega)] at hA3 hE3
              have hbig' : (q : Int) < 4294967296 := by omega
              have hob' : ob = true := hob.out.2 (by omega)
              subst hob'
              have hq4 := hid (show q < 4294967296 by omega)
              clear hbig
              have HA3 := hid hA3
              have HE3 := hid hE3
              clear hA3 hE3 hob
              have hb3 : decide ((4294967296 : Int) ≤ (q : Int)) = false := decide_eq_false (by omega)
              clear hbig' hq4
              go_wp2
              have hq4 : Hid (q < 4294967296) := by (have := of_decide_eq_false hb3); show q < 4294967296; omega
              exact ⟨⟨j + 1, q, by omega, by omega, Nat.le_of_lt hq4.out, vi (by omega), rfl, ⟨true, rfl, by show _ ↔ _; exact ⟨fun _ => hq4.out, fun _ => rfl⟩⟩, HA3.out, by rw [HE3.out]; show j + (_ + 1) = j + 1 + _; omega⟩, by simp [intOf]; omega⟩
          · have hA3 := hA2.out
            have hE3 := hE2.out
            have hz : digG base v ((lst s).drop j) = (v, 0) := by
              by_cases hlt : j < s.size
              · rw [lst_cons s j hlt, dig_no (fun h => hgo ⟨hlt, h⟩)]
              · rw [lst_nil s j (by omega)]; rfl
            rw [hz] at hA3 hE3
            simp only [Nat.add_zero] at hA3 hE3
            clear hz hA2 hE2 hA hE
            subst hA3
            subst hE3
            by_cases hlt : E < s.size
            · have hy : ¬ hex9 s[E] < base := fun h => hgo ⟨hlt, (hex9_lt _ _ hb16).1 h⟩
              have hcall := hex57 s[E]
              generalize hex9 s[E] = x at hcall hy
              have hd' : (base : Int) ≤ x := by omega
              clear hgo
              go_wp2_with (go_at_call 165; (with_reducible refine (hcall _).mono ?_); rintro e w1 ⟨rfl, rfl⟩)
              go_meet
              case rel => exact ⟨rfl, rfl, ⟨ob, rfl, hob⟩, hj, rfl⟩
            · clear hgo
              go_wp2
              go_meet
              case rel => exact ⟨rfl, rfl, ⟨ob, rfl, hob⟩, hj, rfl⟩
      case rest =>
        obtain ⟨rfl, rfl, ⟨ob, rfl, hob⟩, hEs, rfl⟩ := hcut
        have hdd : ((lst s).drop k0).drop (f - k0) = (lst s).drop f := by rw [List.drop_drop, show k0 + (f - k0) = f by omega]
        have hfE : f ≤ E := by rw [hE.out]; omega
        have h48 : headIs (fun c => decide (c.toNat = 48)) ((lst s).drop k0) = decide (s[k0].toNat = 48) := by rw [lst_cons s k0 hk]; rfl
        obtain ⟨bd, hbd⟩ : ∃ bd : Bool, bd = true ↔ (E = f ∨ (base = 10 ∧ 1 < E - f ∧ s[k0].toNat = 48)) := by
          by_cases h : (E = f ∨ (base = 10 ∧ 1 < E - f ∧ s[k0].toNat = 48))
          · exact ⟨true, by simp [h]⟩
          · exact ⟨false, by simp [h]⟩
        have hX2 : X = if (E = f ∨ (base = 10 ∧ 1 < E - f ∧ s[k0].toNat = 48)) ∨ 4294967296 ≤ A then none else numEnd A (E - k0) ((lst s).drop k0) := by
          rw [hX.out]
          unfold numAt
          dsimp only
          rw [hdd, h48, ← hA.out]
          have e2 : (digG base 0 ((lst s).drop f)).2 = E - f := by rw [hE.out]; omega
          rw [e2, show f - k0 + (E - f) = E - k0 by omega]
          congr 1
          apply propext
          rw [decide_eq_true_eq]
          have hb := HBF.out
          omega
        clear hdd h48 hA hE hX
        obtain ⟨ok1, hok⟩ : ∃ ok1 : Bool, ok1 = (ob && !bd) := ⟨_, rfl⟩
        have hXn : ok1 = false → X = none := fun h => by
          rw [hX2, if_pos]
          by_cases ha : A < 4294967296
          · have := hob.out.2 ha
            rw [this] at hok
            have : bd = true := by cases bd <;> simp_all
            exact .inl (hbd.1 this)
          · exact .inr (by omega)
        have hXs : ok1 = true → X = numEnd A (E - k0) ((lst s).drop k0) ∧ A < 4294967296 := fun h => by
          have h1 : ob = true := by cases ob <;> simp_all
          have h2 : bd = false := by cases bd <;> simp_all
          have h3 := hob.out.1 h1
          rw [hX2, if_neg]
          · exact ⟨rfl, h3⟩
          · rintro (h4 | h4)
            · rw [hbd.2 h4] at h2; cases h2
            · omega
        have HXn := hid hXn
        have HXs := hid hXs
        have HBD := hid hbd
        have HOK := hid hok
        clear hX2 hXn hXs hbd hok hob
        go_upto_region 16 with fail
        go_cut [8, 70] (fun i b wx => i = .int .i64 (E : Nat) ∧ b = .bool bd ∧ wx = (w.alloc zBox).alloc (numBox k0 false))
        case first =>
          by_cases e1 : E = f
          · have : bd = true := HBD.out.2 (.inl e1)
            subst this
            have e1' : ((E : Int) == (f : Int)) = true := by rw [e1]; simp
            go_wp2
            go_meet
            case rel => exact ⟨vi (by omega), rfl, rfl⟩
          · have e1' : ((E : Int) == (f : Int)) = false := by simp; omega
            have e1f : (f : Int) < s.size := by omega
            have hfs : f < s.size := by omega
            rcases HBF.out with ⟨_, hb, hfk⟩ | ⟨_, hb, hfk⟩
            · have : bd = false := by cases h : bd with | false => rfl | true => exact absurd (HBD.out.1 h) (by simp [e1, hb])
              subst this
              have hb' : ((base : Int) == 10) = false := by rw [hb]; rfl
              clear hb hfk
              go_wp2
              go_meet
              case rel => exact ⟨rfl, rfl, rfl⟩
            · have hb' : ((base : Int) == 10) = true := by rw [hb]; rfl
              have hsf : (s[f]'hfs).toNat = s[k0].toNat := by subst hfk; rfl
              by_cases e2 : 1 < E - f
              · have e2' : (1 : Int) < (E : Int) - f := by omega
                by_cases e3 : s[k0].toNat = 48
                · have : bd = true := HBD.out.2 (.inr ⟨hb, e2, e3⟩)
                  subst this
                  have e3' : (((s[f]'hfs).toNat : Int) == 48) = true := by rw [hsf, e3]; rfl
                  clear e3 hb hfk hsf
                  go_wp2
                  go_meet
                  case rel => exact ⟨rfl, rfl, rfl⟩
                · have : bd = false := by cases h : bd with | false => rfl | true => exact absurd (HBD.out.1 h) (by simp [e1, e3])
                  subst this
                  have e3' : (((s[f]'hfs).toNat : Int) == 48) = false := by rw [hsf]; simp; omega
                  clear e3 hb hfk hsf
                  go_wp2
                  go_meet
                  case rel => exact ⟨rfl, rfl, rfl⟩
              · have e2' : ¬ (1 : Int) < (E : Int) - f := by omega
                have : bd = false := by cases h : bd with | false => rfl | true => exact absurd (HBD.out.1 h) (by simp [e1, e2])
                subst this
                clear hb hfk hsf
                go_wp2
                go_meet
                case rel => exact ⟨rfl, rfl, rfl⟩
        case rest =>
          obtain ⟨rfl, rfl, rfl⟩ := hcut
          go_upto_if 70 with fail
          go_cut [11] (fun o wx => o = .bool ok1 ∧ wx = (w.alloc zBox).alloc (numBox k0 false))
          case first =>
            cases bd
            · have : ok1 = ob := by rw [HOK.out]; simp
              subst this
              go_wp2
              go_meet
              case rel => exact ⟨rfl, rfl⟩
            · have : ok1 = false := by rw [HOK.out]; simp
              subst this
              go_wp2
              go_meet
              case rel => exact ⟨rfl, rfl⟩
          case rest =>
            obtain ⟨rfl, rfl⟩ := hcut
            clear HBD HOK HBF
            obtain ⟨c, hc⟩ : ∃ c, c = byteAt ((lst s).drop E) := ⟨_, rfl⟩
            obtain ⟨d, hd⟩ : ∃ d, d = byteAt ((lst s).drop (E + 1)) := ⟨_, rfl⟩
            have k1 := at58 s E
            have k2 := at58 s (E + 1)
            rw [← hc] at k1
            rw [← hd, show ((E + 1 : Nat) : Int) = (E : Int) + 1 by omega] at k2
            have hcH : Hid (byteAt (((lst s).drop k0).drop (E - k0)) = c) := by (show _ = _); rw [List.drop_drop, show k0 + (E - k0) = E by omega, hc]
            have hdH : Hid (byteAt (((lst s).drop k0).drop (E - k0 + 1)) = d) := by (show _ = _); rw [List.drop_drop, show k0 + (E - k0 + 1) = E + 1 by omega, hd]
            clear hc hd
            go_wp2_with (first
              | (go_at_call 166; (with_reducible refine (k1 _).mono ?_); rintro e w1 ⟨rfl, rfl⟩)
              | (go_at_call 166; (with_reducible refine (k2 _).mono ?_); rintro e w1 ⟨rfl, rfl⟩)
              | (go_at_call 114; refine (letter27 _ _).mono ?_; rintro e w1 ⟨rfl, rfl⟩)
              | (go_at_call 115; refine (digit28 _ _).mono ?_; rintro e w1 ⟨rfl, rfl⟩))
            all_goals clear k1 k2
            all_goals (try simp only [beq_iff_eq, beq_eq_false_iff_ne, ne_eq, Bool.not_eq_true] at *)
            all_goals first
              | (have hx : X = none := by
                  cases h : ok1 with
                  | false => exact HXn.out h
                  | true => exact (HXs.out h).1.trans (F4 hcH.out hdH.out (isU_yes (by omega)) (by first | exact nm_l (by assumption) | exact nm_d (by assumption)))
                 rw [hx]
                 exact bodyPost_ret (v := .tuple #[.agg #[.int .i64 5, .string ⟨#[]⟩, .int .u32 ((A : Int) % 4294967296), .bool true, .int .i64 (k0 : Int), .int .i64 ((E : Int) + 1)], .bool false]) (by simp [results, Tryz.results116, go_sem]) rfl ⟨⟨_, _, _, _, _, _, rfl⟩, below_more (below_box _ _) _⟩)
              | (have hx : X = none := by
                  cases h : ok1 with
                  | false => exact HXn.out h
                  | true => exact (HXs.out h).1.trans (F2 hcH.out (isU_no (by omega) (by omega)) (by first | exact nm_l (by assumption) | exact nm_d (by assumption)))
                 rw [hx]
                 exact bodyPost_ret (v := .tuple #[.agg #[.int .i64 5, .string ⟨#[]⟩, .int .u32 ((A : Int) % 4294967296), .bool (decide ((2147483648 : Int) ≤ A)), .int .i64 (k0 : Int), .int .i64 (E : Int)], .bool false]) (by simp [results, Tryz.results116, go_sem]) rfl ⟨⟨_, _, _, _, _, _, rfl⟩, below_more (below_box _ _) _⟩)
              | (have hu : isU c = true := isU_yes (by omega)
                 have hl1 : letr d = false := by assumption
                 have hl2 : dig d = false := by assumption
                 cases h : ok1 with
                 | false =>
                   rw [HXn.out h]
                   exact bodyPost_ret (v := .tuple #[.agg #[.int .i64 5, .string ⟨#[]⟩, .int .u32 ((A : Int) % 4294967296), .bool true, .int .i64 (k0 : Int), .int .i64 ((E : Int) + 1)], .bool false]) (by simp [results, Tryz.results116, go_sem]) rfl ⟨⟨_, _, _, _, _, _, rfl⟩, below_more (below_box _ _) _⟩
                 | true =>
                   obtain ⟨hx, ha⟩ := HXs.out h
                   rw [hx.trans (F3 hcH.out hdH.out hu hl1 hl2)]
                   exact bodyPost_ret (v := .tuple #[.agg #[.int .i64 5, .string ⟨#[]⟩, .int .u32 ((A : Int) % 4294967296), .bool true, .int .i64 (k0 : Int), .int .i64 ((E : Int) + 1)], .bool true]) (by simp [results, Tryz.results116, go_sem]) rfl ⟨tokP_num (by omega) rfl (by omega), below_more (below_box _ _) _⟩)
              | (have hu : isU c = false := isU_no (by omega) (by omega)
                 have hl1 : letr c = false := by assumption
                 have hl2 : dig c = false := by assumption
                 cases h : ok1 with
                 | false =>
                   rw [HXn.out h]
                   exact bodyPost_ret (v := .tuple #[.agg #[.int .i64 5, .string ⟨#[]⟩, .int .u32 ((A : Int) % 4294967296), .bool (decide ((2147483648 : Int) ≤ A)), .int .i64 (k0 : Int), .int .i64 (E : Int)], .bool false]) (by simp [results, Tryz.results116, go_sem]) rfl ⟨⟨_, _, _, _, _, _, rfl⟩, below_more (below_box _ _) _⟩
                 | true =>
                   obtain ⟨hx, ha⟩ := HXs.out h
                   rw [hx.trans (F1 hcH.out hu hl1 hl2), ← dec_nat]
                   exact bodyPost_ret (v := .tuple #[.agg #[.int .i64 5, .string ⟨#[]⟩, .int .u32 ((A : Int) % 4294967296), .bool (decide ((2147483648 : Int) ≤ A)), .int .i64 (k0 : Int), .int .i64 (E : Int)], .bool true]) (by simp [results, Tryz.results116, go_sem]) rfl ⟨tokP_num (by omega) rfl (by omega), below_more (below_box _ _) _⟩)

theorem number43 (s : ByteArray) (k0 : Nat) (hk : k0 < s.size) (hs : s.size < 4294967281) (w : World) :
    Calls Tryz.prog 116 #[.string s, .int .i64 (k0 : Int)] w fun e w' => TokP k0 (numF ((lst s).drop k0)) e ∧ Below w.heap.size w w' := by
  have c1 := fun w => is42 s ⟨#[48, 120]⟩ [48, 120] rfl k0 (by omega) (by omega) w
  have c2 := fun w => is42 s ⟨#[48, 88]⟩ [48, 88] rfl k0 (by omega) (by omega) w
  have hlen := lst_len s
  unfold numF
  cases hx : isX ((lst s).drop k0) with
  | true =>
    have hr : k0 + 2 ≤ s.size := by
      have h3 := hx
      unfold isX at h3
      rw [Bool.or_eq_true] at h3
      have h4 : 2 ≤ ((lst s).drop k0).length := by
        rcases h3 with h3 | h3
        · exact (List.isPrefixOf_iff_prefix.1 h3).length_le
        · exact (List.isPrefixOf_iff_prefix.1 h3).length_le
      rw [List.length_drop, hlen] at h4
      omega
    have := number43_at s k0 16 (k0 + 2) _ _ hk hs c1 c2 (.inl ⟨hx, rfl, rfl⟩) hr w
    rw [show k0 + 2 - k0 = 2 by omega] at this
    rw [if_pos rfl]
    exact this
  | false =>
    have := number43_at s k0 10 k0 _ _ hk hs c1 c2 (.inr ⟨hx, rfl, rfl⟩) (by omega) w
    rw [show k0 - k0 = 0 by omega] at this
    rw [if_neg (by simp)]
    exact this
end Go.Proofs.YtjeioblhpfogfaaGreatDoorLx
