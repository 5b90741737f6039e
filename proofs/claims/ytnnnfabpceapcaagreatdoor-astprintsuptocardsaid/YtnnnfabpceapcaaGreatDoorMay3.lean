/- Signs. -/
import Derived.Test.YtnnnfabpceapcaaGreatDoorMay2
namespace Go.Proofs.YtnnnfabpceapcaaGreatDoor
open Go.RowKit
set_option linter.unusedVariables false

def signF (s : ByteArray) : Bool := s.toList == [45] || (s.toList == [126] || (s.toList == [33] || s.toList == [38]))
theorem sign43 : AskS 40 fun s => .bool (signF s) := fun s w _ => by
  unfold signF
  go_enter Tryz.func40, Tryz.ntmps40
  cases h1 : s.toList == [45] with
  | true =>
    go_wp2
    go_ret
    exact ⟨rfl, Below.refl _ _⟩
  | false =>
  cases h2 : s.toList == [126] with
  | true =>
    go_wp2
    go_ret
    exact ⟨rfl, Below.refl _ _⟩
  | false =>
  cases h3 : s.toList == [33] with
  | true =>
    go_wp2
    go_ret
    exact ⟨rfl, Below.refl _ _⟩
  | false =>
  cases h4 : s.toList == [38] with
  | true =>
    go_wp2
    go_ret
    exact ⟨rfl, Below.refl _ _⟩
  | false =>
    go_wp2
    go_ret
    exact ⟨rfl, Below.refl _ _⟩
def asgF (s : ByteArray) : Bool :=
  if s.toList == [61] then true else if s.toList == [43, 61] then true else if s.toList == [45, 61] then true else if s.toList == [42, 61] then true else if s.toList == [47, 61] then true else if s.toList == [37, 61] then true else if s.toList == [38, 61] then true else if s.toList == [124, 61] then true else if s.toList == [94, 61] then true else if s.toList == [60, 60, 61] then true else if s.toList == [62, 62, 61] then true else false
set_option maxHeartbeats 4000000 in
theorem asg46 : AskS 43 fun s => .bool (asgF s) := fun s w _ => by
  unfold asgF
  go_enter Tryz.func43, Tryz.ntmps43
  cases h0 : s.toList == [61] with
  | true =>
    go_wp2
    go_ret
    exact ⟨rfl, Below.refl _ _⟩
  | false =>
  cases h1 : s.toList == [43, 61] with
  | true =>
    go_wp2
    go_ret
    exact ⟨rfl, Below.refl _ _⟩
  | false =>
  cases h2 : s.toList == [45, 61] with
  | true =>
    go_wp2
    go_ret
    exact ⟨rfl, Below.refl _ _⟩
  | false =>
  cases h3 : s.toList == [42, 61] with
  | true =>
    go_wp2
    go_ret
    exact ⟨rfl, Below.refl _ _⟩
  | false =>
  cases h4 : s.toList == [47, 61] with
  | true =>
    go_wp2
    go_ret
    exact ⟨rfl, Below.refl _ _⟩
  | false =>
  cases h5 : s.toList == [37, 61] with
  | true =>
    go_wp2
    go_ret
    exact ⟨rfl, Below.refl _ _⟩
  | false =>
  cases h6 : s.toList == [38, 61] with
  | true =>
    go_wp2
    go_ret
    exact ⟨rfl, Below.refl _ _⟩
  | false =>
  cases h7 : s.toList == [124, 61] with
  | true =>
    go_wp2
    go_ret
    exact ⟨rfl, Below.refl _ _⟩
  | false =>
  cases h8 : s.toList == [94, 61] with
  | true =>
    go_wp2
    go_ret
    exact ⟨rfl, Below.refl _ _⟩
  | false =>
  cases h9 : s.toList == [60, 60, 61] with
  | true =>
    go_wp2
    go_ret
    exact ⟨rfl, Below.refl _ _⟩
  | false =>
  cases h10 : s.toList == [62, 62, 61] with
  | true =>
    go_wp2
    go_ret
    exact ⟨rfl, Below.refl _ _⟩
  | false =>
    go_wp2
    go_ret
    exact ⟨rfl, Below.refl _ _⟩

def logF (s : ByteArray) : Int :=
  if s.toList == [124, 124] then 2 else if s.toList == [38, 38] then 3 else 0
set_option maxHeartbeats 4000000 in
theorem log45 : AskS 42 fun s => .int .i64 (logF s) := fun s w _ => by
  unfold logF
  go_enter Tryz.func42, Tryz.ntmps42
  cases h0 : s.toList == [124, 124] with
  | true =>
    go_wp2
    go_ret
    exact ⟨rfl, Below.refl _ _⟩
  | false =>
  cases h1 : s.toList == [38, 38] with
  | true =>
    go_wp2
    go_ret
    exact ⟨rfl, Below.refl _ _⟩
  | false =>
    go_wp2
    go_ret
    exact ⟨rfl, Below.refl _ _⟩

def binF (s : ByteArray) : Int :=
  if s.toList == [124] then 4 else if s.toList == [94] then 5 else if s.toList == [38] then 6 else if s.toList == [61, 61] then 7 else if s.toList == [33, 61] then 7 else if s.toList == [60] then 8 else if s.toList == [62] then 8 else if s.toList == [60, 61] then 8 else if s.toList == [62, 61] then 8 else if s.toList == [60, 60] then 9 else if s.toList == [62, 62] then 9 else if s.toList == [43] then 10 else if s.toList == [45] then 10 else if s.toList == [42] then 11 else if s.toList == [47] then 11 else if s.toList == [37] then 11 else 0
set_option maxHeartbeats 4000000 in
theorem bin44 : AskS 41 fun s => .int .i64 (binF s) := fun s w _ => by
  unfold binF
  go_enter Tryz.func41, Tryz.ntmps41
  cases h0 : s.toList == [124] with
  | true =>
    go_wp2
    go_ret
    exact ⟨rfl, Below.refl _ _⟩
  | false =>
  cases h1 : s.toList == [94] with
  | true =>
    go_wp2
    go_ret
    exact ⟨rfl, Below.refl _ _⟩
  | false =>
  cases h2 : s.toList == [38] with
  | true =>
    go_wp2
    go_ret
    exact ⟨rfl, Below.refl _ _⟩
  | false =>
  cases h3 : s.toList == [61, 61] with
  | true =>
    go_wp2
    go_ret
    exact ⟨rfl, Below.refl _ _⟩
  | false =>
  cases h4 : s.toList == [33, 61] with
  | true =>
    go_wp2
    go_ret
    exact ⟨rfl, Below.refl _ _⟩
  | false =>
  cases h5 : s.toList == [60] with
  | true =>
    go_wp2
    go_ret
    exact ⟨rfl, Below.refl _ _⟩
  | false =>
  cases h6 : s.toList == [62] with
  | true =>
    go_wp2
    go_ret
    exact ⟨rfl, Below.refl _ _⟩
  | false =>
  cases h7 : s.toList == [60, 61] with
  | true =>
    go_wp2
    go_ret
    exact ⟨rfl, Below.refl _ _⟩
  | false =>
  cases h8 : s.toList == [62, 61] with
  | true =>
    go_wp2
    go_ret
    exact ⟨rfl, Below.refl _ _⟩
  | false =>
  cases h9 : s.toList == [60, 60] with
  | true =>
    go_wp2
    go_ret
    exact ⟨rfl, Below.refl _ _⟩
  | false =>
  cases h10 : s.toList == [62, 62] with
  | true =>
    go_wp2
    go_ret
    exact ⟨rfl, Below.refl _ _⟩
  | false =>
  cases h11 : s.toList == [43] with
  | true =>
    go_wp2
    go_ret
    exact ⟨rfl, Below.refl _ _⟩
  | false =>
  cases h12 : s.toList == [45] with
  | true =>
    go_wp2
    go_ret
    exact ⟨rfl, Below.refl _ _⟩
  | false =>
  cases h13 : s.toList == [42] with
  | true =>
    go_wp2
    go_ret
    exact ⟨rfl, Below.refl _ _⟩
  | false =>
  cases h14 : s.toList == [47] with
  | true =>
    go_wp2
    go_ret
    exact ⟨rfl, Below.refl _ _⟩
  | false =>
  cases h15 : s.toList == [37] with
  | true =>
    go_wp2
    go_ret
    exact ⟨rfl, Below.refl _ _⟩
  | false =>
    go_wp2
    go_ret
    exact ⟨rfl, Below.refl _ _⟩

end Go.Proofs.YtnnnfabpceapcaaGreatDoor
