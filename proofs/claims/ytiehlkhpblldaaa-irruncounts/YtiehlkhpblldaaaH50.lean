/- Light; Run, over what Count tells. -/
import Derived.Test.YtiehlkhpblldaaaH00
import Derived.Test.YtiehlkhpblldaaaH03
import Derived.Test.YtiehlkhpblldaaaH46
import Derived.Test.YtiehlkhpblldaaaH48
import Derived.Test.YtiehlkhpblldaaaH49
import Derived.Laws.DeepStrings4
import Derived.Laws.Concat
import Derived.Deep.Cut
set_option linter.unusedVariables false
set_option linter.unusedSimpArgs false
set_option maxRecDepth 20000
set_option maxHeartbeats 8000000
namespace Go.Proofs.Ytiehlkhpblldaaa
open Go.RowKit Go.Maps
/-- Is a run not too long, and not too wide? -/
def lightF (p : Pg) (fuel : Int) : Bool := decide (fuel ≤ 32768) && (decide (p.funcs.length ≤ 256) && p.funcs.all (fun f => decide (f.regs ≤ 1024)))
theorem light7 {W : World} {p : Pg} (hp : Pg.ok W p) (fuel deep : Int) : Calls Try.prog 7 #[p.val, .int .i64 fuel, .int .i64 deep] W fun e w' => e = .returned (.bool (lightF p fuel)) ∧ Below W.heap.size W w' := by
  obtain ⟨fv, funcs, gl, dv, data, main⟩ := p
  obtain ⟨fo, fc, ef, hf⟩ := hp.f.form fn5
  obtain ⟨dd, dc, ed⟩ := hp.d.len
  have hfl := hp.fl
  dsimp only at *
  subst ef ed
  have HF := hid' hf
  unfold big at hfl
  clear hf hp
  unfold Pg.val
  dsimp only
  generalize hR : lightF ⟨.slice fo funcs.length fc, funcs, gl, .slice dd data.length dc, data, main⟩ fuel = R
  have HR : Hid (R = (decide (fuel ≤ 32768) && (decide (funcs.length ≤ 256) && funcs.all (fun f => decide (f.regs ≤ 1024))))) := hR.symm
  clear hR
  by_cases g1 : fuel ≤ 32768
  · by_cases g2 : funcs.length ≤ 256
    · have HR1 : Hid (R = funcs.all (fun f => decide (f.regs ≤ 1024))) := by unfold Hid; rw [HR.out, decide_eq_true g1, decide_eq_true g2]; rfl
      have g1' : ¬ fuel > 32768 := by omega
      have g2' : ¬ (funcs.length : Int) > 256 := by omega
      clear HR
      go_enter Try.func7, Try.ntmps7
      go_wp2
      go_loopw [7] (fun i wr => ∃ k : Nat, k ≤ funcs.length ∧ i = .int .i64 k ∧ (∀ j (h : j < funcs.length), j < k → funcs[j].regs ≤ 1024) ∧ Below (W.alloc (.cells #[.slice fo funcs.length fc, .int .i64 gl, .slice dd data.length dc, .int .i64 main] 25)).heap.size (W.alloc (.cells #[.slice fo funcs.length fc, .int .i64 gl, .slice dd data.length dc, .int .i64 main] 25)) wr) (fun i _ => funcs.length - (intOf i).toNat)
      case atStart => exact ⟨0, Nat.zero_le _, rfl, fun j _ hj => by omega, Below.refl _ _⟩
      case round =>
        obtain ⟨k, hk, rfl, hok, hbw⟩ := hrel
        have HK := hid' hok
        have HB := hid' hbw
        obtain ⟨hsz, hB0, f0, _⟩ := pbox hbw
        have HB0 := hid' hB0
        clear hok hbw hB0
        by_cases hlt : k < funcs.length
        · obtain ⟨b, o, rfl, hb, hc, hx⟩ := HF.out k hlt
          have c2 := (fn_cells (hx wr HB0.out)).2.2.1
          clear hx
          by_cases g : funcs[k].regs ≤ 1024
          · have HN : Hid (∀ j (h : j < funcs.length), j < k + 1 → funcs[j].regs ≤ 1024) := fun j h hj => by
              by_cases e : j = k
              · subst e; exact g
              · exact HK.out j h (by omega)
            have g' : ¬ funcs[k].regs > 1024 := by omega
            go_wp2
            go_roundw
            case rel => exact ⟨k + 1, by omega, by go_num, HN.out, HB.out⟩
            case measure => simp [intOf]; omega
          · have HF0 : Hid (R = false) := by
              unfold Hid
              rw [HR1.out, List.all_eq_false]
              exact ⟨funcs[k], List.getElem_mem hlt, by simpa using g⟩
            have g' : funcs[k].regs > 1024 := by omega
            go_wp2
            go_ret
            exact ⟨by rw [HF0.out]; rfl, HB0.out⟩
        · have e : k = funcs.length := by omega
          subst e
          have HT0 : Hid (R = true) := by
            unfold Hid
            rw [HR1.out, List.all_eq_true]
            intro f hf
            obtain ⟨j, hj, rfl⟩ := List.getElem_of_mem hf
            exact decide_eq_true (HK.out j hj hj)
          go_wp2
          go_ret
          exact ⟨by rw [HT0.out]; rfl, HB0.out⟩
    · have HF0 : Hid (R = false) := by unfold Hid; rw [HR.out, decide_eq_false g2]; simp
      have g1' : ¬ fuel > 32768 := by omega
      have g2' : (funcs.length : Int) > 256 := by omega
      clear HR
      go_enter Try.func7, Try.ntmps7
      go_wp2
      go_ret
      exact ⟨by rw [HF0.out]; rfl, below1 _ _⟩
  · have HF0 : Hid (R = false) := by unfold Hid; rw [HR.out, decide_eq_false g1]; simp
    have g1' : fuel > 32768 := by omega
    clear HR
    go_enter Try.func7, Try.ntmps7
    go_wp2
    go_ret
    exact ⟨by rw [HF0.out]; rfl, below1 _ _⟩
end Go.Proofs.Ytiehlkhpblldaaa

namespace Go.Proofs.Ytiehlkhpblldaaa
open Go.RowKit Go.Maps

section
variable {p : Pg} {x y : ByteArray} {f : Int} {W : World}
end
end Go.Proofs.Ytiehlkhpblldaaa

namespace Go.Proofs.Ytiehlkhpblldaaa
open Go.RowKit Go.Maps

theorem prog13 {w : World} {p : Pg} (hp : Pg.ok w p) : Calls Try.prog 13 #[p.val] w fun e w' => e = .returned (.bool (pgF p)) ∧ Below w.heap.size w w' :=
  prog10_of hp (fun _ hW _ hk => func13 (hp.on hW) ((hp.fns _ (List.getElem_mem hk)).on hW))
section
variable {p : Pg} {x : ByteArray} {f g : Int} {W : World}
end
end Go.Proofs.Ytiehlkhpblldaaa
