/- The steps of the program's parser as plain functions (printed by tools/genrd8.py). -/
import Derived.Test.YtjeioblhpfogfaaGreatDoorX26
import Derived.Test.YtjeioblhpfogfaaGreatDoorX27
set_option linter.unusedVariables false
set_option linter.unusedSimpArgs false
set_option maxRecDepth 20000
set_option maxHeartbeats 8000000
namespace Go.Proofs.YtjeioblhpfogfaaGreatDoor
open Go.RowKit

def st24F (toks : List Tk) (s : St) : Except Int St :=
  .ok { s with todo := 48 :: 49 :: s.todo }
theorem goes24 {toks : List Tk} {s : St} (hf : Fine toks s) : Goes toks 24 s (st24F toks s) := ⟨fun _ _ => by kernel_rfl, fun W B p hB hO h => by
  unfold st24F
  exact expression24 h hf⟩
def st48F (toks : List Tk) (s : St) : Except Int St :=
  .ok { s with todo := 85 :: 86 :: 87 :: s.todo }
theorem goes48 {toks : List Tk} {s : St} (hf : Fine toks s) : Goes toks 48 s (st48F toks s) := ⟨fun _ _ => by kernel_rfl, fun W B p hB hO h => by
  unfold st48F
  exact conditional48 h hf⟩
def st221F (toks : List Tk) (s : St) : Except Int St :=
  .ok { s with todo := 226 :: 40 :: s.todo }
theorem goes221 {toks : List Tk} {s : St} (hf : Fine toks s) : Goes toks 221 s (st221F toks s) := ⟨fun _ _ => by kernel_rfl, fun W B p hB hO h => by
  unfold st221F
  exact member221 h hf⟩
def st188F (toks : List Tk) (s : St) : Except Int St :=
  .ok { s with todo := 226 :: 227 :: 40 :: s.todo }
theorem goes188 {toks : List Tk} {s : St} (hf : Fine toks s) : Goes toks 188 s (st188F toks s) := ⟨fun _ _ => by kernel_rfl, fun W B p hB hO h => by
  unfold st188F
  exact variable188 h hf⟩
def st138F (toks : List Tk) (s : St) : Except Int St :=
  if signAt toks s.pl = ⟨#[58]⟩ then
    .ok { s with pl := s.pl + 1 }
  else
    .error (tk toks s.pl).pos
theorem goes138 {toks : List Tk} {s : St} (hf : Fine toks s) : Goes toks 138 s (st138F toks s) := ⟨fun _ _ => by kernel_rfl, fun W B p hB hO h => by
  unfold st138F
  by_cases h1 : signAt toks s.pl = ⟨#[58]⟩
  · rw [if_pos h1]
    exact colon138_y h hf.more h1
  · rw [if_neg h1]
    exact colon138_n h hf.more h1⟩
def st184F (toks : List Tk) (s : St) : Except Int St :=
  if signAt toks s.pl = ⟨#[41]⟩ then
    .ok { s with pl := s.pl + 1 }
  else
    .error (tk toks s.pl).pos
theorem goes184 {toks : List Tk} {s : St} (hf : Fine toks s) : Goes toks 184 s (st184F toks s) := ⟨fun _ _ => by kernel_rfl, fun W B p hB hO h => by
  unfold st184F
  by_cases h1 : signAt toks s.pl = ⟨#[41]⟩
  · rw [if_pos h1]
    exact closeParen184_y h hf.more h1
  · rw [if_neg h1]
    exact closeParen184_n h hf.more h1⟩
def st192F (toks : List Tk) (s : St) : Except Int St :=
  if signAt toks s.pl = ⟨#[93]⟩ then
    .ok { s with pl := s.pl + 1 }
  else
    .error (tk toks s.pl).pos
theorem goes192 {toks : List Tk} {s : St} (hf : Fine toks s) : Goes toks 192 s (st192F toks s) := ⟨fun _ _ => by kernel_rfl, fun W B p hB hO h => by
  unfold st192F
  by_cases h1 : signAt toks s.pl = ⟨#[93]⟩
  · rw [if_pos h1]
    exact closeBracket192_y h hf.more h1
  · rw [if_neg h1]
    exact closeBracket192_n h hf.more h1⟩
def st182F (toks : List Tk) (s : St) : Except Int St :=
  if signAt toks s.pl = ⟨#[59]⟩ then
    .ok { s with pl := s.pl + 1 }
  else
    .error (tk toks s.pl).pos
theorem goes182 {toks : List Tk} {s : St} (hf : Fine toks s) : Goes toks 182 s (st182F toks s) := ⟨fun _ _ => by kernel_rfl, fun W B p hB hO h => by
  unfold st182F
  by_cases h1 : signAt toks s.pl = ⟨#[59]⟩
  · rw [if_pos h1]
    exact semicolon182_y h hf.more h1
  · rw [if_neg h1]
    exact semicolon182_n h hf.more h1⟩
def st265F (toks : List Tk) (s : St) : Except Int St :=
  if signAt toks s.pl = ⟨#[125]⟩ then
    .ok { s with pl := s.pl + 1 }
  else
    .error (tk toks s.pl).pos
theorem goes265 {toks : List Tk} {s : St} (hf : Fine toks s) : Goes toks 265 s (st265F toks s) := ⟨fun _ _ => by kernel_rfl, fun W B p hB hO h => by
  unfold st265F
  by_cases h1 : signAt toks s.pl = ⟨#[125]⟩
  · rw [if_pos h1]
    exact closeBrace265_y h hf.more h1
  · rw [if_neg h1]
    exact closeBrace265_n h hf.more h1⟩
def st252F (toks : List Tk) (s : St) : Except Int St :=
  if signAt toks s.pl = ⟨#[59]⟩ then
    .ok { s with done := s.done ++ [⟨⟨56, ⟨#[]⟩, 0, false, (tk toks s.pl).pos⟩, [], (tk toks s.pl).pos⟩] }
  else
    if signAt toks s.pl = ⟨#[41]⟩ then
      .ok { s with done := s.done ++ [⟨⟨56, ⟨#[]⟩, 0, false, (tk toks s.pl).pos⟩, [], (tk toks s.pl).pos⟩] }
    else
      if signAt toks s.pl = ⟨#[93]⟩ then
        .ok { s with done := s.done ++ [⟨⟨56, ⟨#[]⟩, 0, false, (tk toks s.pl).pos⟩, [], (tk toks s.pl).pos⟩] }
      else
        .ok { s with todo := 24 :: s.todo }
theorem goes252 {toks : List Tk} {s : St} (hf : Fine toks s) : Goes toks 252 s (st252F toks s) := ⟨fun _ _ => by kernel_rfl, fun W B p hB hO h => by
  unfold st252F
  by_cases h1 : signAt toks s.pl = ⟨#[59]⟩
  · rw [if_pos h1]
    exact perhaps252_0 h hf h1
  · rw [if_neg h1]
    by_cases h2 : signAt toks s.pl = ⟨#[41]⟩
    · rw [if_pos h2]
      exact perhaps252_1 h hf h2
    · rw [if_neg h2]
      by_cases h3 : signAt toks s.pl = ⟨#[93]⟩
      · rw [if_pos h3]
        exact perhaps252_2 h hf h3
      · rw [if_neg h3]
        exact perhaps252_n h hf rfl (toList_ne' h1) (toList_ne' h2) (toList_ne' h3)⟩
def st284F (toks : List Tk) (s : St) : Except Int St :=
  if signAt toks s.pl = ⟨#[101, 108, 115, 101]⟩ then
    .ok { s with pl := s.pl + 1, todo := 251 :: s.todo }
  else
    .ok s
theorem goes284 {toks : List Tk} {s : St} (hf : Fine toks s) : Goes toks 284 s (st284F toks s) := ⟨fun _ _ => by kernel_rfl, fun W B p hB hO h => by
  unfold st284F
  by_cases h1 : signAt toks s.pl = ⟨#[101, 108, 115, 101]⟩
  · rw [if_pos h1]
    exact otherwise284_y h hf h1
  · rw [if_neg h1]
    exact otherwise284_n h hf rfl (toList_ne' h1)⟩
def st87F (toks : List Tk) (s : St) (l : List Dn) (d : Dn) : Except Int St :=
  if signAt toks s.pl = ⟨#[63]⟩ then
    .ok { s with pl := s.pl + 1, todo := 24 :: 138 :: 48 :: 40 :: s.todo, begun := ⟨⟨12, ⟨#[]⟩, 0, false, d.start⟩, 0, l.length⟩ :: s.begun }
  else
    .ok s
theorem goes87 {toks : List Tk} {s : St} (hf : Fine toks s) {l : List Dn} {d : Dn} (hd : s.done = l ++ [d]) : Goes toks 87 s (st87F toks s l d) := ⟨fun _ _ => by kernel_rfl, fun W B p hB hO h => by
  unfold st87F
  by_cases h1 : signAt toks s.pl = ⟨#[63]⟩
  · rw [if_pos h1]
    exact choice87_y h hf h1 hd
  · rw [if_neg h1]
    exact choice87_n h hf rfl (toList_ne' h1)⟩
def st134F (toks : List Tk) (s : St) (l : List Dn) (d : Dn) : Except Int St :=
  if signAt toks s.pl = ⟨#[91]⟩ then
    .ok { s with pl := s.pl + 1, todo := 24 :: 192 :: 40 :: 134 :: s.todo, begun := ⟨⟨5, ⟨#[]⟩, 0, false, d.start⟩, 0, l.length⟩ :: s.begun }
  else
    if signAt toks s.pl = ⟨#[46]⟩ then
      if (tk toks (s.pl + 1)).kind = 2 then
        .ok { finS { s with pl := s.pl + 2, begun := ⟨⟨6, (tk toks (s.pl + 1)).text, 0, false, d.start⟩, 0, l.length⟩ :: s.begun } ⟨⟨6, (tk toks (s.pl + 1)).text, 0, false, d.start⟩, 0, l.length⟩ s.begun with todo := 134 :: s.todo }
      else
        .error (tk toks (s.pl + 1)).pos
    else
      if signAt toks s.pl = ⟨#[45, 62]⟩ then
        if (tk toks (s.pl + 1)).kind = 2 then
          .ok { finS { s with pl := s.pl + 2, begun := ⟨⟨7, (tk toks (s.pl + 1)).text, 0, false, d.start⟩, 0, l.length⟩ :: s.begun } ⟨⟨7, (tk toks (s.pl + 1)).text, 0, false, d.start⟩, 0, l.length⟩ s.begun with todo := 134 :: s.todo }
        else
          .error (tk toks (s.pl + 1)).pos
      else
        .ok s
theorem goes134 {toks : List Tk} {s : St} (hf : Fine toks s) (hT : TokOk toks) {l : List Dn} {d : Dn} (hd : s.done = l ++ [d]) : Goes toks 134 s (st134F toks s l d) := ⟨fun _ _ => by kernel_rfl, fun W B p hB hO h => by
  unfold st134F
  by_cases h1 : signAt toks s.pl = ⟨#[91]⟩
  · rw [if_pos h1]
    exact postfix134_i h hf h1 hd
  · rw [if_neg h1]
    by_cases h2 : signAt toks s.pl = ⟨#[46]⟩
    · rw [if_pos h2]
      by_cases hk : (tk toks (s.pl + 1)).kind = 2
      · rw [if_pos hk]
        exact postfix134_6 h hf h2 (hT.sign h2 (by simp)) hk hd
      · rw [if_neg hk]
        exact postfix134_6n h hf h2 (hT.sign h2 (by simp)) hk
    · rw [if_neg h2]
      by_cases h3 : signAt toks s.pl = ⟨#[45, 62]⟩
      · rw [if_pos h3]
        by_cases hk : (tk toks (s.pl + 1)).kind = 2
        · rw [if_pos hk]
          exact postfix134_7 h hf h3 (hT.sign h3 (by simp)) hk hd
        · rw [if_neg hk]
          exact postfix134_7n h hf h3 (hT.sign h3 (by simp)) hk
      · rw [if_neg h3]
        exact postfix134_n h hf rfl (toList_ne' h1) (toList_ne' h2) (toList_ne' h3)⟩
def st231F (toks : List Tk) (s : St) : Except Int St :=
  if signAt toks s.pl = ⟨#[44]⟩ then
    .ok { s with pl := s.pl + 1, todo := 24 :: 231 :: s.todo }
  else
    .ok s
theorem goes231 {toks : List Tk} {s : St} (hf : Fine toks s) : Goes toks 231 s (st231F toks s) := ⟨fun _ _ => by kernel_rfl, fun W B p hB hO h => by
  unfold st231F
  by_cases h1 : signAt toks s.pl = ⟨#[44]⟩
  · rw [if_pos h1]
    exact moreExpressions231_y h hf h1
  · rw [if_neg h1]
    exact moreExpressions231_n h hf rfl (toList_ne' h1)⟩
def st222F (toks : List Tk) (s : St) : Except Int St :=
  if signAt toks s.pl = ⟨#[44]⟩ then
    .ok { s with pl := s.pl + 1, todo := 221 :: 222 :: s.todo }
  else
    .ok s
theorem goes222 {toks : List Tk} {s : St} (hf : Fine toks s) : Goes toks 222 s (st222F toks s) := ⟨fun _ _ => by kernel_rfl, fun W B p hB hO h => by
  unfold st222F
  by_cases h1 : signAt toks s.pl = ⟨#[44]⟩
  · rw [if_pos h1]
    exact moreMembers222_y h hf h1
  · rw [if_neg h1]
    exact moreMembers222_n h hf rfl (toList_ne' h1)⟩
def st189F (toks : List Tk) (s : St) : Except Int St :=
  if signAt toks s.pl = ⟨#[44]⟩ then
    .ok { s with pl := s.pl + 1, todo := 188 :: 189 :: s.todo }
  else
    .ok s
theorem goes189 {toks : List Tk} {s : St} (hf : Fine toks s) : Goes toks 189 s (st189F toks s) := ⟨fun _ _ => by kernel_rfl, fun W B p hB hO h => by
  unfold st189F
  by_cases h1 : signAt toks s.pl = ⟨#[44]⟩
  · rw [if_pos h1]
    exact moreVariables189_y h hf h1
  · rw [if_neg h1]
    exact moreVariables189_n h hf rfl (toList_ne' h1)⟩
def st187F (toks : List Tk) (s : St) : Except Int St :=
  if signAt toks s.pl = ⟨#[44]⟩ then
    .ok { s with pl := s.pl + 1, todo := 186 :: 187 :: s.todo }
  else
    .ok s
theorem goes187 {toks : List Tk} {s : St} (hf : Fine toks s) : Goes toks 187 s (st187F toks s) := ⟨fun _ _ => by kernel_rfl, fun W B p hB hO h => by
  unfold st187F
  by_cases h1 : signAt toks s.pl = ⟨#[44]⟩
  · rw [if_pos h1]
    exact moreParameters187_y h hf h1
  · rw [if_neg h1]
    exact moreParameters187_n h hf rfl (toList_ne' h1)⟩
def st185F (toks : List Tk) (s : St) : Except Int St :=
  if signAt toks s.pl = ⟨#[123]⟩ then
    .ok { s with pl := s.pl + 1, todo := 223 :: 40 :: s.todo, begun := ⟨⟨47, ⟨#[]⟩, 0, false, (tk toks s.pl).pos⟩, 0, s.done.length⟩ :: s.begun }
  else
    .error (tk toks s.pl).pos
theorem goes185 {toks : List Tk} {s : St} (hf : Fine toks s) : Goes toks 185 s (st185F toks s) := ⟨fun _ _ => by kernel_rfl, fun W B p hB hO h => by
  unfold st185F
  by_cases h1 : signAt toks s.pl = ⟨#[123]⟩
  · rw [if_pos h1]
    exact block185_y h hf h1
  · rw [if_neg h1]
    exact block185_n h hf h1⟩
def st273F (toks : List Tk) (s : St) : Except Int St :=
  if signAt toks s.pl = ⟨#[105, 102]⟩ then
    .ok { s with pl := s.pl + 1, todo := 283 :: 251 :: 284 :: 40 :: s.todo, begun := ⟨⟨49, ⟨#[]⟩, 0, false, (tk toks s.pl).pos⟩, 0, s.done.length⟩ :: s.begun }
  else
    .error (tk toks s.pl).pos
theorem goes273 {toks : List Tk} {s : St} (hf : Fine toks s) : Goes toks 273 s (st273F toks s) := ⟨fun _ _ => by kernel_rfl, fun W B p hB hO h => by
  unfold st273F
  by_cases h1 : signAt toks s.pl = ⟨#[105, 102]⟩
  · rw [if_pos h1]
    exact branch273_y h hf h1
  · rw [if_neg h1]
    exact branch273_n h hf h1⟩
def st274F (toks : List Tk) (s : St) : Except Int St :=
  if signAt toks s.pl = ⟨#[119, 104, 105, 108, 101]⟩ then
    .ok { s with pl := s.pl + 1, todo := 283 :: 251 :: 40 :: s.todo, begun := ⟨⟨50, ⟨#[]⟩, 0, false, (tk toks s.pl).pos⟩, 0, s.done.length⟩ :: s.begun }
  else
    .error (tk toks s.pl).pos
theorem goes274 {toks : List Tk} {s : St} (hf : Fine toks s) : Goes toks 274 s (st274F toks s) := ⟨fun _ _ => by kernel_rfl, fun W B p hB hO h => by
  unfold st274F
  by_cases h1 : signAt toks s.pl = ⟨#[119, 104, 105, 108, 101]⟩
  · rw [if_pos h1]
    exact while274_y h hf h1
  · rw [if_neg h1]
    exact while274_n h hf h1⟩
def st275F (toks : List Tk) (s : St) : Except Int St :=
  if signAt toks s.pl = ⟨#[100, 111]⟩ then
    .ok { s with pl := s.pl + 1, todo := 251 :: 285 :: 182 :: 40 :: s.todo, begun := ⟨⟨51, ⟨#[]⟩, 0, false, (tk toks s.pl).pos⟩, 0, s.done.length⟩ :: s.begun }
  else
    .error (tk toks s.pl).pos
theorem goes275 {toks : List Tk} {s : St} (hf : Fine toks s) : Goes toks 275 s (st275F toks s) := ⟨fun _ _ => by kernel_rfl, fun W B p hB hO h => by
  unfold st275F
  by_cases h1 : signAt toks s.pl = ⟨#[100, 111]⟩
  · rw [if_pos h1]
    exact do275_y h hf h1
  · rw [if_neg h1]
    exact do275_n h hf h1⟩
def st253F (toks : List Tk) (s : St) : Except Int St :=
  if signAt toks s.pl = ⟨#[123]⟩ then
    .ok { s with pl := s.pl + 1, todo := 24 :: 231 :: 265 :: 40 :: s.todo, begun := ⟨⟨44, ⟨#[]⟩, 0, false, (tk toks s.pl).pos⟩, 0, s.done.length⟩ :: s.begun }
  else
    .error (tk toks s.pl).pos
theorem goes253 {toks : List Tk} {s : St} (hf : Fine toks s) : Goes toks 253 s (st253F toks s) := ⟨fun _ _ => by kernel_rfl, fun W B p hB hO h => by
  unfold st253F
  by_cases h1 : signAt toks s.pl = ⟨#[123]⟩
  · rw [if_pos h1]
    exact list253_y h hf h1
  · rw [if_neg h1]
    exact list253_n h hf h1⟩
def st280F (toks : List Tk) (s : St) : Except Int St :=
  .ok { s with todo := 24 :: 182 :: 40 :: s.todo, begun := ⟨⟨48, ⟨#[]⟩, 0, false, (tk toks s.pl).pos⟩, 0, s.done.length⟩ :: s.begun }
theorem goes280 {toks : List Tk} {s : St} (hf : Fine toks s) : Goes toks 280 s (st280F toks s) := ⟨fun _ _ => by kernel_rfl, fun W B p hB hO h => by
  unfold st280F
  exact eval280 h hf⟩
def st283F (toks : List Tk) (s : St) : Except Int St :=
  if signAt toks s.pl = ⟨#[40]⟩ then
    .ok { s with pl := s.pl + 1, todo := 24 :: 184 :: s.todo }
  else
    .error (tk toks s.pl).pos
theorem goes283 {toks : List Tk} {s : St} (hf : Fine toks s) : Goes toks 283 s (st283F toks s) := ⟨fun _ _ => by kernel_rfl, fun W B p hB hO h => by
  unfold st283F
  by_cases h1 : signAt toks s.pl = ⟨#[40]⟩
  · rw [if_pos h1]
    exact test283_y h hf.more h1
  · rw [if_neg h1]
    exact test283_n h hf.more h1⟩
def st133F (toks : List Tk) (s : St) : Except Int St :=
  .ok { s with pl := s.pl + 1, todo := 24 :: 184 :: 191 :: s.todo, begun := ⟨⟨0, ⟨#[]⟩, 0, false, (tk toks s.pl).pos⟩, 0, s.done.length⟩ :: s.begun }
theorem goes133 {toks : List Tk} {s : St} (hf : Fine toks s) : Goes toks 133 s (st133F toks s) := ⟨fun _ _ => by kernel_rfl, fun W B p hB hO h => by
  unfold st133F
  exact parens133 h hf⟩
def st223F (toks : List Tk) (s : St) : Except Int St :=
  if signAt toks s.pl = ⟨#[125]⟩ then
    .ok { s with pl := s.pl + 1 }
  else
    if tyWord (signAt toks s.pl) = true then
      .ok { s with todo := 124 :: 223 :: s.todo }
    else
      .ok { s with todo := 251 :: 223 :: s.todo }
theorem goes223 {toks : List Tk} {s : St} (hf : Fine toks s) : Goes toks 223 s (st223F toks s) := ⟨fun _ _ => by kernel_rfl, fun W B p hB hO h => by
  unfold st223F
  by_cases h1 : signAt toks s.pl = ⟨#[125]⟩
  · rw [if_pos h1]
    exact inBlock223_e h hf h1
  · rw [if_neg h1]
    by_cases h2 : tyWord (signAt toks s.pl) = true
    · rw [if_pos h2]
      exact inBlock223_t h hf rfl (toList_ne' h1) h2
    · rw [if_neg h2]
      exact inBlock223_s h hf rfl (toList_ne' h1) (by simpa using h2)⟩
def st272F (toks : List Tk) (s : St) : Except Int St :=
  .ok { s with pl := s.pl + 1, done := s.done ++ [⟨⟨56, ⟨#[]⟩, 0, false, (tk toks s.pl).pos⟩, [], (tk toks s.pl).pos⟩] }
theorem goes272 {toks : List Tk} {s : St} (hf : Fine toks s) : Goes toks 272 s (st272F toks s) := ⟨fun _ _ => by kernel_rfl, fun W B p hB hO h => by
  unfold st272F
  exact none272 h hf⟩
def st277F (toks : List Tk) (s : St) : Except Int St :=
  if signAt toks (s.pl + 1) = ⟨#[59]⟩ then
    .ok { s with pl := s.pl + 2, done := s.done ++ [⟨⟨53, ⟨#[]⟩, 0, false, (tk toks s.pl).pos⟩, [], (tk toks s.pl).pos⟩] }
  else
    .error (tk toks (s.pl + 1)).pos
theorem goes277 {toks : List Tk} {s : St} (hf : Fine toks s) (hn : s.pl + 1 < toks.length) : Goes toks 277 s (st277F toks s) := ⟨fun _ _ => by kernel_rfl, fun W B p hB hO h => by
  unfold st277F
  by_cases h1 : signAt toks (s.pl + 1) = ⟨#[59]⟩
  · rw [if_pos h1]
    exact breaking277_y h hf hn h1
  · rw [if_neg h1]
    exact breaking277_n h hf hn h1⟩
def st278F (toks : List Tk) (s : St) : Except Int St :=
  if signAt toks (s.pl + 1) = ⟨#[59]⟩ then
    .ok { s with pl := s.pl + 2, done := s.done ++ [⟨⟨54, ⟨#[]⟩, 0, false, (tk toks s.pl).pos⟩, [], (tk toks s.pl).pos⟩] }
  else
    .error (tk toks (s.pl + 1)).pos
theorem goes278 {toks : List Tk} {s : St} (hf : Fine toks s) (hn : s.pl + 1 < toks.length) : Goes toks 278 s (st278F toks s) := ⟨fun _ _ => by kernel_rfl, fun W B p hB hO h => by
  unfold st278F
  by_cases h1 : signAt toks (s.pl + 1) = ⟨#[59]⟩
  · rw [if_pos h1]
    exact continuing278_y h hf hn h1
  · rw [if_neg h1]
    exact continuing278_n h hf hn h1⟩
def st279F (toks : List Tk) (s : St) : Except Int St :=
  if signAt toks s.pl = ⟨#[114, 101, 116, 117, 114, 110]⟩ then
    if signAt toks (s.pl + 1) = ⟨#[59]⟩ then
      .ok { s with pl := s.pl + 1, todo := 182 :: 40 :: s.todo, begun := ⟨⟨55, ⟨#[]⟩, 0, false, (tk toks s.pl).pos⟩, 0, s.done.length⟩ :: s.begun }
    else
      .ok { s with pl := s.pl + 1, todo := 24 :: 182 :: 40 :: s.todo, begun := ⟨⟨55, ⟨#[]⟩, 0, false, (tk toks s.pl).pos⟩, 0, s.done.length⟩ :: s.begun }
  else
    .error (tk toks s.pl).pos
theorem goes279 {toks : List Tk} {s : St} (hf : Fine toks s) (hT : TokOk toks) : Goes toks 279 s (st279F toks s) := ⟨fun _ _ => by kernel_rfl, fun W B p hB hO h => by
  unfold st279F
  by_cases h1 : signAt toks s.pl = ⟨#[114, 101, 116, 117, 114, 110]⟩
  · rw [if_pos h1]
    by_cases h2 : signAt toks (s.pl + 1) = ⟨#[59]⟩
    · rw [if_pos h2]
      exact returning279_e h hf h1 (hT.sign h1 (by simp)) h2
    · rw [if_neg h2]
      exact returning279_x h hf h1 (hT.sign h1 (by simp)) rfl (toList_ne' h2)
  · rw [if_neg h1]
    exact returning279_n h hf h1⟩
def st276F (toks : List Tk) (s : St) : Except Int St :=
  if signAt toks s.pl = ⟨#[102, 111, 114]⟩ then
    if signAt toks (s.pl + 1) = ⟨#[40]⟩ then
      .ok { s with pl := s.pl + 2, todo := 252 :: 182 :: 252 :: 182 :: 252 :: 184 :: 251 :: 40 :: s.todo, begun := ⟨⟨52, ⟨#[]⟩, 0, false, (tk toks s.pl).pos⟩, 0, s.done.length⟩ :: s.begun }
    else
      .error (tk toks (s.pl + 1)).pos
  else
    .error (tk toks s.pl).pos
theorem goes276 {toks : List Tk} {s : St} (hf : Fine toks s) (hT : TokOk toks) : Goes toks 276 s (st276F toks s) := ⟨fun _ _ => by kernel_rfl, fun W B p hB hO h => by
  unfold st276F
  by_cases h1 : signAt toks s.pl = ⟨#[102, 111, 114]⟩
  · rw [if_pos h1]
    by_cases h2 : signAt toks (s.pl + 1) = ⟨#[40]⟩
    · rw [if_pos h2]
      exact loop276_y h hf h1 (hT.sign h1 (by simp)) h2
    · rw [if_neg h2]
      exact loop276_m h hf h1 (hT.sign h1 (by simp)) h2
  · rw [if_neg h1]
    exact loop276_n h hf h1⟩
def st285F (toks : List Tk) (s : St) : Except Int St :=
  if signAt toks s.pl = ⟨#[119, 104, 105, 108, 101]⟩ then
    if signAt toks (s.pl + 1) = ⟨#[40]⟩ then
      .ok { s with pl := s.pl + 2, todo := 24 :: 184 :: s.todo }
    else
      .error (tk toks (s.pl + 1)).pos
  else
    .error (tk toks s.pl).pos
theorem goes285 {toks : List Tk} {s : St} (hf : Fine toks s) (hT : TokOk toks) : Goes toks 285 s (st285F toks s) := ⟨fun _ _ => by kernel_rfl, fun W B p hB hO h => by
  unfold st285F
  by_cases h1 : signAt toks s.pl = ⟨#[119, 104, 105, 108, 101]⟩
  · rw [if_pos h1]
    by_cases h2 : signAt toks (s.pl + 1) = ⟨#[40]⟩
    · rw [if_pos h2]
      exact until285_y h hf h1 (hT.sign h1 (by simp)) h2
    · rw [if_neg h2]
      exact until285_m h hf h1 (hT.sign h1 (by simp)) h2
  · rw [if_neg h1]
    exact until285_n h hf h1⟩
def st251F (toks : List Tk) (s : St) : Except Int St :=
  .ok { s with todo := stOf (signAt toks s.pl) :: s.todo }
theorem goes251 {toks : List Tk} {s : St} (hf : Fine toks s) : Goes toks 251 s (st251F toks s) := ⟨fun _ _ => by kernel_rfl, fun W B p hB hO h => by
  unfold st251F
  exact statement251 h hf rfl⟩
def st226F (toks : List Tk) (s : St) : Except Int St :=
  if (tk toks s.pl).kind = 2 then
    if signAt toks (s.pl + 1) = ⟨#[91]⟩ then
      .ok { s with pl := s.pl + 2, todo := 252 :: 192 :: s.todo, begun := ⟨⟨43, (tk toks s.pl).text, 0, true, (tk toks s.pl).pos⟩, 0, s.done.length⟩ :: s.begun }
    else
      .ok { s with pl := s.pl + 1, begun := ⟨⟨43, (tk toks s.pl).text, 0, false, (tk toks s.pl).pos⟩, 0, s.done.length⟩ :: s.begun }
  else
    .error (tk toks s.pl).pos
theorem goes226 {toks : List Tk} {s : St} (hf : Fine toks s) (hT : TokOk toks) : Goes toks 226 s (st226F toks s) := ⟨fun _ _ => by kernel_rfl, fun W B p hB hO h => by
  unfold st226F
  by_cases hk : (tk toks s.pl).kind = 2
  · rw [if_pos hk]
    by_cases h2 : signAt toks (s.pl + 1) = ⟨#[91]⟩
    · rw [if_pos h2]
      exact named226_b h hf hk (hT.next _ hf.at_ (by rw [hk]; decide)) h2
    · rw [if_neg h2]
      exact named226_a h hf hk (hT.next _ hf.at_ (by rw [hk]; decide)) rfl (toList_ne' h2)
  · rw [if_neg hk]
    exact named226_n h hf hk⟩
def st122F (toks : List Tk) (s : St) : Except Int St :=
  if signAt toks s.pl = ⟨#[115, 116, 114, 117, 99, 116]⟩ then
    if (tk toks (s.pl + 1)).kind = 2 then
      if signAt toks (s.pl + 2) = ⟨#[123]⟩ then
        .ok { s with pl := s.pl + 3, todo := 181 :: 182 :: 40 :: s.todo, begun := ⟨⟨41, (tk toks (s.pl + 1)).text, 0, false, (tk toks s.pl).pos⟩, 0, s.done.length⟩ :: s.begun }
      else
        .error (tk toks (s.pl + 2)).pos
    else
      .error (tk toks (s.pl + 1)).pos
  else
    .error (tk toks s.pl).pos
theorem goes122 {toks : List Tk} {s : St} (hf : Fine toks s) (hT : TokOk toks) : Goes toks 122 s (st122F toks s) := ⟨fun _ _ => by kernel_rfl, fun W B p hB hO h => by
  unfold st122F
  by_cases h1 : signAt toks s.pl = ⟨#[115, 116, 114, 117, 99, 116]⟩
  · rw [if_pos h1]
    by_cases hk : (tk toks (s.pl + 1)).kind = 2
    · rw [if_pos hk]
      by_cases h2 : signAt toks (s.pl + 2) = ⟨#[123]⟩
      · rw [if_pos h2]
        exact record122_y h hf h1 (hT.sign h1 (by simp)) hk (hT.next _ (hT.sign h1 (by simp)) (by rw [hk]; decide)) h2
      · rw [if_neg h2]
        exact record122_k h hf h1 (hT.sign h1 (by simp)) hk (hT.next _ (hT.sign h1 (by simp)) (by rw [hk]; decide)) h2
    · rw [if_neg hk]
      exact record122_m h hf h1 (hT.sign h1 (by simp)) hk
  · rw [if_neg h1]
    exact record122_n h hf h1⟩
def st73F (toks : List Tk) (s : St) : Except Int St :=
  if (tk toks s.pl).kind = 1 then
    .ok s
  else
    .error (tk toks s.pl).pos
theorem goes73 {toks : List Tk} {s : St} (hf : Fine toks s) : Goes toks 73 s (st73F toks s) := ⟨fun _ _ => by kernel_rfl, fun W B p hB hO h => by
  unfold st73F
  by_cases hk : (tk toks s.pl).kind = 1
  · rw [if_pos hk]
    exact end73_y h hf hk
  · rw [if_neg hk]
    exact end73_n h hf rfl (by simpa using hk) (by simpa using hk)⟩
def st39F (toks : List Tk) (s : St) : Except Int St :=
  if (tk toks s.pl).kind = 1 then
    .ok s
  else
    .ok { s with todo := declF toks s :: 39 :: s.todo }
theorem goes39 {toks : List Tk} {s : St} (hf : Fine toks s) : Goes toks 39 s (st39F toks s) := ⟨fun _ _ => by kernel_rfl, fun W B p hB hO h => by
  unfold st39F
  by_cases hk : (tk toks s.pl).kind = 1
  · rw [if_pos hk]
    exact declarations39_e h hf hk
  · rw [if_neg hk]
    exact declarations39_n h hf rfl (by simpa using hk)⟩
def st49F (toks : List Tk) (s : St) (l : List Dn) (d : Dn) : Except Int St :=
  if asgW (signAt toks s.pl) = true then
    if plK d.x.kind = true then
      .ok { s with pl := s.pl + 1, todo := 24 :: 40 :: s.todo, begun := ⟨⟨13, signAt toks s.pl, 0, false, d.start⟩, 0, l.length⟩ :: s.begun }
    else
      .error (tk toks s.pl).pos
  else
    .ok s
theorem goes49 {toks : List Tk} {s : St} (hf : Fine toks s) {l : List Dn} {d : Dn} (hd : s.done = l ++ [d]) : Goes toks 49 s (st49F toks s l d) := ⟨fun _ _ => by kernel_rfl, fun W B p hB hO h => by
  unfold st49F
  by_cases h1 : asgW (signAt toks s.pl) = true
  · rw [if_pos h1]
    by_cases h2 : plK d.x.kind = true
    · rw [if_pos h2]
      exact assignment49_y h hf rfl h1 hd h2
    · rw [if_neg h2]
      exact assignment49_w h hf rfl h1 hd (by simpa using h2)
  · rw [if_neg h1]
    exact assignment49_n h hf rfl (by simpa using h1)⟩
def st20F (toks : List Tk) (s : St) : Except Int St :=
  .ok { s with todo := 39 :: 40 :: s.todo, begun := ⟨⟨40, ⟨#[]⟩, 0, false, 0⟩, 0, 0⟩ :: s.begun }
theorem goes20 {toks : List Tk} {s : St} (hf : Fine toks s) : Goes toks 20 s (st20F toks s) := ⟨fun _ _ => by kernel_rfl, fun W B p hB hO h => by
  unfold st20F
  exact program20 h hf⟩
def st191F (toks : List Tk) (s : St) (b : Bg) (lb : List Bg) (l : List Dn) (d : Dn) : Except Int St :=
  .ok { s with begun := lb, done := l ++ [{ d with start := b.x.pos }] }
theorem goes191 {toks : List Tk} {s : St} (hf : Fine toks s) {b : Bg} {lb : List Bg} (hb : s.begun = b :: lb) {l : List Dn} {d : Dn} (hd : s.done = l ++ [d]) : Goes toks 191 s (st191F toks s b lb l d) := ⟨fun _ _ => by kernel_rfl, fun W B p hB hO h => by
  unfold st191F
  exact startThere191 h hf hb hd⟩
def st40F (toks : List Tk) (s : St) (b : Bg) (lb : List Bg) : Except Int St :=
  .ok (finS s b lb)
theorem goes40 {toks : List Tk} {s : St} (hf : Fine toks s) {b : Bg} {lb : List Bg} (hb : s.begun = b :: lb) (hfi : b.first ≤ s.done.length) : Goes toks 40 s (st40F toks s b lb) := ⟨fun _ _ => by kernel_rfl, fun W B p hB hO h => by
  unfold st40F
  exact finish40 h hb (by have := hf.begun; omega) (by have := hf.done; omega) hfi⟩
def st227F (toks : List Tk) (s : St) (b : Bg) : Except Int St :=
  if signAt toks s.pl = ⟨#[61]⟩ then
    if signAt toks (s.pl + 1) = ⟨#[123]⟩ then
      if b.x.flag = true then
        .ok { s with pl := s.pl + 1, todo := 253 :: s.todo }
      else
        .ok { s with pl := s.pl + 1, todo := 24 :: s.todo }
    else
      .ok { s with pl := s.pl + 1, todo := 24 :: s.todo }
  else
    .ok s
theorem goes227 {toks : List Tk} {s : St} (hf : Fine toks s) {b : Bg} {lb : List Bg} (hb : s.begun = b :: lb) : Goes toks 227 s (st227F toks s b) := ⟨fun _ _ => by kernel_rfl, fun W B p hB hO h => by
  unfold st227F
  by_cases h1 : signAt toks s.pl = ⟨#[61]⟩
  · rw [if_pos h1]
    by_cases h2 : signAt toks (s.pl + 1) = ⟨#[123]⟩
    · rw [if_pos h2]
      by_cases h3 : b.x.flag = true
      · rw [if_pos h3]
        exact initial227_b (fl := true) h hf h1 h2 hb (.inl ⟨h3, rfl⟩)
      · rw [if_neg h3]
        exact initial227_b (fl := true) h hf h1 h2 hb (.inr ⟨by simpa using h3, rfl⟩)
    · rw [if_neg h2]
      exact initial227_x h hf h1 rfl (toList_ne' h2)
  · rw [if_neg h1]
    exact initial227_n h hf rfl (toList_ne' h1)⟩
end Go.Proofs.YtjeioblhpfogfaaGreatDoor
namespace Go.Proofs.YtjeioblhpfogfaaGreatDoor
open Go.RowKit

theorem typedF_shape {toks : List Tk} {s s2 : St} (hT : TokOk toks) (h1 : typedF toks s = .ok s2) : ∃ k2 dn2, s2 = { s with pl := k2, done := dn2 } ∧ k2 < toks.length ∧ dn2.length = s.done.length + 1 := by
  obtain ⟨x, e, hl, _⟩ := typedF_ok hT h1
  refine ⟨s2.pl, s.done ++ [⟨x, [], (tk toks s.pl).pos⟩], e, hl, ?_⟩
  rw [List.length_append, List.length_singleton]
theorem rd_pos {W : World} {B p : Nat} {toks : List Tk} {s : St} (h : RdS W B p toks s) (hB : 0 < B) : 0 < W.heap.size := by
  obtain ⟨_, _, _, _, _, h⟩ := h
  exact Nat.lt_of_lt_of_le hB h.low
theorem levFrom_in (sx : ByteArray) : ∀ (t : List (ByteArray × Int)), (∀ p ∈ t, 1 ≤ p.2 ∧ p.2 ≤ 11) → ¬ levFrom sx t = 0 → 1 ≤ levFrom sx t ∧ levFrom sx t ≤ 11
  | [], _, h => absurd rfl h
  | e :: r, hp, h => by
    rw [levFrom] at h ⊢
    split
    · exact hp e (List.mem_cons_self ..)
    · rename_i hn
      rw [if_neg hn] at h
      exact levFrom_in sx r (fun p hm => hp p (List.mem_cons_of_mem _ hm)) h
theorem lev_in {sx : ByteArray} (h : ¬ levF sx = 0) : 1 ≤ levF sx ∧ levF sx ≤ 11 := levFrom_in sx opTab (by
  intro p hp
  simp only [opTab, List.mem_cons, List.not_mem_nil, or_false] at hp
  rcases hp with h | h | h | h | h | h | h | h | h | h | h | h | h | h | h | h | h | h <;> subst h <;> decide) h
/-- What all that is to be done comes to. -/
def Runs (toks : List Tk) (s : St) (r : Except Int St) : Prop := ∃ n, RunsN toks n s r
theorem Runs.done {toks : List Tk} {s : St} (h : s.todo = []) : Runs toks s (.ok s) := ⟨0, h, rfl⟩
theorem Runs.ok {toks : List Tk} {s s' : St} {k : Nat} {rest : List Nat} {q : Except Int St} {r : Except Int St} (ht : s.todo = k :: rest) (hg : Goes toks k { s with todo := rest } q) (hq : q = .ok s') (h : Runs toks s' r) : Runs toks s r := by
  obtain ⟨n, h⟩ := h
  subst hq
  exact ⟨n + 1, Or.inr ⟨k, rest, _, ht, hg, h⟩⟩
theorem Runs.wrong {toks : List Tk} {s : St} {k : Nat} {rest : List Nat} {q : Except Int St} {e : Int} (ht : s.todo = k :: rest) (hg : Goes toks k { s with todo := rest } q) (hq : q = .error e) : Runs toks s (.error e) := by
  subst hq
  exact ⟨1, Or.inr ⟨k, rest, _, ht, hg, rfl⟩⟩
def st124F (toks : List Tk) (s : St) : Except Int St :=
  match typedF toks { s with begun := ⟨⟨42, ⟨#[]⟩, 0, false, (tk toks s.pl).pos⟩, 0, s.done.length⟩ :: s.begun } with
  | .error q => .error q
  | .ok s2 =>
    .ok { s2 with todo := 188 :: 189 :: 182 :: 40 :: s.todo }
theorem goes124 {toks : List Tk} {s : St} (hf : Fine toks s) (hT : TokOk toks) : Goes toks 124 s (st124F toks s) := ⟨fun _ _ => by kernel_rfl, fun W B p hB hO h => by
  unfold st124F
  cases e : typedF toks { s with begun := ⟨⟨42, ⟨#[]⟩, 0, false, (tk toks s.pl).pos⟩, 0, s.done.length⟩ :: s.begun } with
  | error q => exact variables124_e h hf hT e
  | ok s2 =>
    obtain ⟨k2, dn2, rfl, hl2, hd2⟩ := typedF_shape hT e
    dsimp only
    exact variables124_y h hf hT e⟩
def st181F (toks : List Tk) (s : St) : Except Int St :=
  if signAt toks s.pl = ⟨#[125]⟩ then
    .ok { s with pl := s.pl + 1 }
  else
    match typedF toks { s with begun := ⟨⟨42, ⟨#[]⟩, 0, false, (tk toks s.pl).pos⟩, 0, s.done.length⟩ :: s.begun } with
    | .error q => .error q
    | .ok s2 =>
      .ok { s2 with todo := 221 :: 222 :: 182 :: 40 :: 181 :: s.todo }
theorem goes181 {toks : List Tk} {s : St} (hf : Fine toks s) (hT : TokOk toks) : Goes toks 181 s (st181F toks s) := ⟨fun _ _ => by kernel_rfl, fun W B p hB hO h => by
  unfold st181F
  by_cases h1 : signAt toks s.pl = ⟨#[125]⟩
  · rw [if_pos h1]
    exact members181_e h hf h1
  · rw [if_neg h1]
    cases e : typedF toks { s with begun := ⟨⟨42, ⟨#[]⟩, 0, false, (tk toks s.pl).pos⟩, 0, s.done.length⟩ :: s.begun } with
    | error q => exact members181_n h hf rfl (toList_ne' h1) hT e
    | ok s2 =>
      obtain ⟨k2, dn2, rfl, hl2, hd2⟩ := typedF_shape hT e
      dsimp only
      exact members181_y h hf rfl (toList_ne' h1) hT e⟩
def st130F (toks : List Tk) (s : St) : Except Int St :=
  if signAt toks s.pl = ⟨#[40]⟩ then
    if tyWord (signAt toks (s.pl + 1)) = true then
      match typedF toks { s with pl := s.pl + 1 } with
      | .error q => .error q
      | .ok s2 =>
        if signAt toks s2.pl = ⟨#[41]⟩ then
          .ok { s2 with pl := s2.pl + 1 }
        else
          .error (tk toks s2.pl).pos
    else
      .ok { s with todo := 85 :: s.todo }
  else
    .ok { s with todo := 85 :: s.todo }
theorem goes130 {toks : List Tk} {s : St} (hf : Fine toks s) (hT : TokOk toks) : Goes toks 130 s (st130F toks s) := ⟨fun _ _ => by kernel_rfl, fun W B p hB hO h => by
  unfold st130F
  by_cases h1 : signAt toks s.pl = ⟨#[40]⟩
  · rw [if_pos h1]
    by_cases h2 : tyWord (signAt toks (s.pl + 1)) = true
    · rw [if_pos h2]
      cases e : typedF toks { s with pl := s.pl + 1 } with
      | error q => exact measured130_e h hf h1 (hT.sign h1 (by simp)) rfl h2 hT e
      | ok s2 =>
        obtain ⟨k2, dn2, rfl, hl2, hd2⟩ := typedF_shape hT e
        dsimp only
        by_cases h3 : signAt toks k2 = ⟨#[41]⟩
        · rw [if_pos h3]
          exact measured130_y h hf h1 (hT.sign h1 (by simp)) rfl h2 hT e hl2 h3
        · rw [if_neg h3]
          exact measured130_x h hf h1 (hT.sign h1 (by simp)) rfl h2 hT e hl2 h3
    · rw [if_neg h2]
      exact measured130_m h hf h1 rfl (by simpa using h2)
  · rw [if_neg h1]
    exact measured130_n h hf rfl (toList_ne' h1)⟩
def st85F (toks : List Tk) (s : St) : Except Int St :=
  if signAt toks s.pl = ⟨#[45]⟩ then
    .ok { s with pl := s.pl + 1, todo := 85 :: 40 :: s.todo, begun := ⟨⟨9, ⟨#[45]⟩, 0, false, (tk toks s.pl).pos⟩, 0, s.done.length⟩ :: s.begun }
  else
    if signAt toks s.pl = ⟨#[126]⟩ then
      .ok { s with pl := s.pl + 1, todo := 85 :: 40 :: s.todo, begun := ⟨⟨9, ⟨#[126]⟩, 0, false, (tk toks s.pl).pos⟩, 0, s.done.length⟩ :: s.begun }
    else
      if signAt toks s.pl = ⟨#[33]⟩ then
        .ok { s with pl := s.pl + 1, todo := 85 :: 40 :: s.todo, begun := ⟨⟨9, ⟨#[33]⟩, 0, false, (tk toks s.pl).pos⟩, 0, s.done.length⟩ :: s.begun }
      else
        if signAt toks s.pl = ⟨#[38]⟩ then
          .ok { s with pl := s.pl + 1, todo := 85 :: 40 :: s.todo, begun := ⟨⟨9, ⟨#[38]⟩, 0, false, (tk toks s.pl).pos⟩, 0, s.done.length⟩ :: s.begun }
        else
          if signAt toks s.pl = ⟨#[115, 105, 122, 101, 111, 102]⟩ then
            .ok { s with pl := s.pl + 1, todo := 130 :: 40 :: s.todo, begun := ⟨⟨15, ⟨#[]⟩, 0, false, (tk toks s.pl).pos⟩, 0, s.done.length⟩ :: s.begun }
          else
            if signAt toks s.pl = ⟨#[40]⟩ then
              if tyWord (signAt toks (s.pl + 1)) = true then
                match typedF toks { s with pl := s.pl + 1, begun := ⟨⟨14, ⟨#[]⟩, 0, false, (tk toks s.pl).pos⟩, 0, s.done.length⟩ :: s.begun } with
                | .error q => .error q
                | .ok s2 =>
                  if signAt toks s2.pl = ⟨#[41]⟩ then
                    .ok { s2 with pl := s2.pl + 1, todo := 85 :: 40 :: s.todo }
                  else
                    .error (tk toks s2.pl).pos
              else
                .ok { s with todo := 133 :: 134 :: s.todo }
            else
              .ok { s with todo := 135 :: 134 :: s.todo }
theorem goes85 {toks : List Tk} {s : St} (hf : Fine toks s) (hT : TokOk toks) : Goes toks 85 s (st85F toks s) := ⟨fun _ _ => by kernel_rfl, fun W B p hB hO h => by
  unfold st85F
  by_cases a45 : signAt toks s.pl = ⟨#[45]⟩
  · rw [if_pos a45]
    exact unary85_45 h hf a45
  · rw [if_neg a45]
    by_cases a126 : signAt toks s.pl = ⟨#[126]⟩
    · rw [if_pos a126]
      exact unary85_126 h hf a126
    · rw [if_neg a126]
      by_cases a33 : signAt toks s.pl = ⟨#[33]⟩
      · rw [if_pos a33]
        exact unary85_33 h hf a33
      · rw [if_neg a33]
        by_cases a38 : signAt toks s.pl = ⟨#[38]⟩
        · rw [if_pos a38]
          exact unary85_38 h hf a38
        · rw [if_neg a38]
          by_cases asz : signAt toks s.pl = ⟨#[115, 105, 122, 101, 111, 102]⟩
          · rw [if_pos asz]
            exact unary85_sizeof h hf asz
          · rw [if_neg asz]
            by_cases h1 : signAt toks s.pl = ⟨#[40]⟩
            · rw [if_pos h1]
              by_cases h2 : tyWord (signAt toks (s.pl + 1)) = true
              · rw [if_pos h2]
                cases e : typedF toks { s with pl := s.pl + 1, begun := ⟨⟨14, ⟨#[]⟩, 0, false, (tk toks s.pl).pos⟩, 0, s.done.length⟩ :: s.begun } with
                | error q => exact unary85_ce h hf h1 (hT.sign h1 (by simp)) rfl h2 hT e
                | ok s2 =>
                  obtain ⟨k2, dn2, rfl, hl2, hd2⟩ := typedF_shape hT e
                  dsimp only
                  by_cases h3 : signAt toks k2 = ⟨#[41]⟩
                  · rw [if_pos h3]
                    exact unary85_cy h hf h1 (hT.sign h1 (by simp)) rfl h2 hT e hl2 h3
                  · rw [if_neg h3]
                    exact unary85_cx h hf h1 (hT.sign h1 (by simp)) rfl h2 hT e hl2 h3
              · rw [if_neg h2]
                exact unary85_parens h hf h1 rfl (by simpa using h2)
            · rw [if_neg h1]
              exact unary85_n h hf rfl (toList_ne' a45) (toList_ne' a126) (toList_ne' a33) (toList_ne' a38) (toList_ne' asz) (toList_ne' h1)⟩
def st186F (toks : List Tk) (s : St) : Except Int St :=
  match typedF toks { s with begun := ⟨⟨46, ⟨#[]⟩, 0, false, (tk toks s.pl).pos⟩, 0, s.done.length⟩ :: s.begun } with
  | .error q => .error q
  | .ok s2 =>
    if signAt toks s2.pl = ⟨#[42]⟩ then
      if (tk toks (s2.pl + 1)).kind = 2 then
        .ok (finS { s with pl := s2.pl + 2, begun := ⟨⟨46, (tk toks (s2.pl + 1)).text, 1, false, (tk toks s.pl).pos⟩, 0, s.done.length⟩ :: s.begun, done := s2.done } ⟨⟨46, (tk toks (s2.pl + 1)).text, 1, false, (tk toks s.pl).pos⟩, 0, s.done.length⟩ s.begun)
      else
        .error (tk toks (s2.pl + 1)).pos
    else
      if (tk toks s2.pl).kind = 2 then
        if signAt toks (s2.pl + 1) = ⟨#[91]⟩ then
          if signAt toks (s2.pl + 2) = ⟨#[93]⟩ then
            .ok (finS { s with pl := s2.pl + 3, begun := ⟨⟨46, (tk toks s2.pl).text, 0, true, (tk toks s.pl).pos⟩, 0, s.done.length⟩ :: s.begun, done := s2.done } ⟨⟨46, (tk toks s2.pl).text, 0, true, (tk toks s.pl).pos⟩, 0, s.done.length⟩ s.begun)
          else
            .error (tk toks (s2.pl + 2)).pos
        else
          .ok (finS { s with pl := s2.pl + 1, begun := ⟨⟨46, (tk toks s2.pl).text, 0, false, (tk toks s.pl).pos⟩, 0, s.done.length⟩ :: s.begun, done := s2.done } ⟨⟨46, (tk toks s2.pl).text, 0, false, (tk toks s.pl).pos⟩, 0, s.done.length⟩ s.begun)
      else
        .error (tk toks s2.pl).pos
theorem goes186 {toks : List Tk} {s : St} (hf : Fine toks s) (hT : TokOk toks) : Goes toks 186 s (st186F toks s) := ⟨fun _ _ => by kernel_rfl, fun W B p hB hO h => by
  unfold st186F
  cases e : typedF toks { s with begun := ⟨⟨46, ⟨#[]⟩, 0, false, (tk toks s.pl).pos⟩, 0, s.done.length⟩ :: s.begun } with
  | error q => exact parameter186_e h hf hT e
  | ok s2 =>
    obtain ⟨k2, dn2, rfl, hl2, hd2⟩ := typedF_shape hT e
    dsimp only
    by_cases h2 : signAt toks k2 = ⟨#[42]⟩
    · rw [if_pos h2]
      by_cases hk : (tk toks (k2 + 1)).kind = 2
      · rw [if_pos hk]
        exact parameter186_sy h hf hT e hl2 hd2 h2 (hT.sign h2 (by simp)) hk
      · rw [if_neg hk]
        exact parameter186_sn h hf hT e hl2 hd2 h2 (hT.sign h2 (by simp)) hk
    · rw [if_neg h2]
      by_cases hk : (tk toks k2).kind = 2
      · rw [if_pos hk]
        by_cases h3 : signAt toks (k2 + 1) = ⟨#[91]⟩
        · rw [if_pos h3]
          by_cases h4 : signAt toks (k2 + 2) = ⟨#[93]⟩
          · rw [if_pos h4]
            exact parameter186_py h hf hT e hl2 hd2 rfl (toList_ne' h2) hk (hT.next _ hl2 (by rw [hk]; decide)) h3 (hT.sign h3 (by simp)) h4
          · rw [if_neg h4]
            exact parameter186_pe h hf hT e hl2 hd2 rfl (toList_ne' h2) hk (hT.next _ hl2 (by rw [hk]; decide)) h3 (hT.sign h3 (by simp)) h4
        · rw [if_neg h3]
          exact parameter186_pb h hf hT e hl2 hd2 rfl (toList_ne' h2) hk (hT.next _ hl2 (by rw [hk]; decide)) rfl (toList_ne' h3)
      · rw [if_neg hk]
        exact parameter186_pn h hf hT e hl2 hd2 rfl (toList_ne' h2) hk⟩
def st123F (toks : List Tk) (s : St) : Except Int St :=
  match typedF toks { s with begun := ⟨⟨45, ⟨#[]⟩, 0, false, (tk toks s.pl).pos⟩, 0, s.done.length⟩ :: s.begun } with
  | .error q => .error q
  | .ok s2 =>
    if (tk toks s2.pl).kind = 2 then
      if signAt toks (s2.pl + 1) = ⟨#[40]⟩ then
        if signAt toks (s2.pl + 2) = ⟨#[41]⟩ then
          .ok { s with pl := s2.pl + 2, todo := 184 :: 185 :: 40 :: s.todo, begun := ⟨⟨45, (tk toks s2.pl).text, 0, false, (tk toks s.pl).pos⟩, 0, s.done.length⟩ :: s.begun, done := s2.done }
        else
          .ok { s with pl := s2.pl + 2, todo := 186 :: 187 :: 184 :: 185 :: 40 :: s.todo, begun := ⟨⟨45, (tk toks s2.pl).text, 0, false, (tk toks s.pl).pos⟩, 0, s.done.length⟩ :: s.begun, done := s2.done }
      else
        .error (tk toks (s2.pl + 1)).pos
    else
      .error (tk toks s2.pl).pos
theorem goes123 {toks : List Tk} {s : St} (hf : Fine toks s) (hT : TokOk toks) : Goes toks 123 s (st123F toks s) := ⟨fun _ _ => by kernel_rfl, fun W B p hB hO h => by
  unfold st123F
  cases e : typedF toks { s with begun := ⟨⟨45, ⟨#[]⟩, 0, false, (tk toks s.pl).pos⟩, 0, s.done.length⟩ :: s.begun } with
  | error q => exact function123_e h hf hT e
  | ok s2 =>
    obtain ⟨k2, dn2, rfl, hl2, hd2⟩ := typedF_shape hT e
    dsimp only
    by_cases hk : (tk toks k2).kind = 2
    · rw [if_pos hk]
      by_cases h2 : signAt toks (k2 + 1) = ⟨#[40]⟩
      · rw [if_pos h2]
        by_cases h3 : signAt toks (k2 + 2) = ⟨#[41]⟩
        · rw [if_pos h3]
          exact function123_z h hf hT e hl2 hd2 hk (hT.next _ hl2 (by rw [hk]; decide)) h2 (hT.sign h2 (by simp)) h3
        · rw [if_neg h3]
          exact function123_x h hf hT e hl2 hd2 hk (hT.next _ hl2 (by rw [hk]; decide)) h2 (hT.sign h2 (by simp)) rfl (toList_ne' h3)
      · rw [if_neg h2]
        exact function123_k h hf hT e hl2 hd2 hk (hT.next _ hl2 (by rw [hk]; decide)) h2
    · rw [if_neg hk]
      exact function123_m h hf hT e hl2 hd2 hk⟩
def st135F (toks : List Tk) (s : St) : Except Int St :=
  if (tk toks s.pl).kind = 5 then
    .ok { s with pl := s.pl + 1, done := s.done ++ [⟨⟨1, ⟨#[]⟩, (tk toks s.pl).num, (tk toks s.pl).uns, (tk toks s.pl).pos⟩, [], (tk toks s.pl).pos⟩] }
  else
    if (tk toks s.pl).kind = 6 then
      .ok { s with pl := s.pl + 1, done := s.done ++ [⟨⟨2, ⟨#[]⟩, (tk toks s.pl).num, false, (tk toks s.pl).pos⟩, [], (tk toks s.pl).pos⟩] }
    else
      if (tk toks s.pl).kind = 7 then
        .ok { s with pl := s.pl + 1, done := s.done ++ [⟨⟨3, (tk toks s.pl).text, 0, false, (tk toks s.pl).pos⟩, [], (tk toks s.pl).pos⟩] }
      else
        if (tk toks s.pl).kind = 2 then
          if signAt toks (s.pl + 1) = ⟨#[40]⟩ then
            callF toks s
          else
            .ok { s with pl := s.pl + 1, done := s.done ++ [⟨⟨4, (tk toks s.pl).text, 0, false, (tk toks s.pl).pos⟩, [], (tk toks s.pl).pos⟩] }
        else
          if (tk toks s.pl).text = ⟨#[103, 101, 116, 98, 121, 116, 101]⟩ then
            callF toks s
          else
            if (tk toks s.pl).text = ⟨#[112, 117, 116, 98, 121, 116, 101]⟩ then
              callF toks s
            else
              .error (tk toks s.pl).pos
theorem goes135 {toks : List Tk} {s : St} (hf : Fine toks s) (hT : TokOk toks) (hend : (tk toks s.pl).kind = 1 → (tk toks s.pl).text = ⟨#[]⟩) : Goes toks 135 s (st135F toks s) := ⟨fun _ _ => by kernel_rfl, fun W B p hB hO h => by
  unfold st135F
  by_cases k5 : (tk toks s.pl).kind = 5
  · rw [if_pos k5]
    exact primary135_num h hf k5
  · rw [if_neg k5]
    by_cases k6 : (tk toks s.pl).kind = 6
    · rw [if_pos k6]
      exact primary135_chr h hf k6
    · rw [if_neg k6]
      by_cases k7 : (tk toks s.pl).kind = 7
      · rw [if_pos k7]
        exact primary135_str h hf k7
      · rw [if_neg k7]
        by_cases k2 : (tk toks s.pl).kind = 2
        · rw [if_pos k2]
          by_cases h1 : signAt toks (s.pl + 1) = ⟨#[40]⟩
          · rw [if_pos h1]
            cases e : callF toks s with
            | ok s2 => exact primary135_call h hf k2 hT (hT.next _ hf.at_ (by rw [k2]; decide)) h1 e
            | error q => exact primary135_calle h hf k2 hT (hT.next _ hf.at_ (by rw [k2]; decide)) h1 e
          · rw [if_neg h1]
            exact primary135_nam h hf k2 rfl (toList_ne' h1)
        · rw [if_neg k2]
          by_cases g0 : (tk toks s.pl).text = ⟨#[103, 101, 116, 98, 121, 116, 101]⟩
          · rw [if_pos g0]
            cases e : callF toks s with
            | ok s2 => exact primary135_get h hf rfl (by rw [beq_eq_false_iff_ne]; exact k5) (by rw [beq_eq_false_iff_ne]; exact k6) (by rw [beq_eq_false_iff_ne]; exact k7) (by rw [beq_eq_false_iff_ne]; exact k2) g0 hT (hT.next _ hf.at_ (fun e1 => by rw [hend e1] at g0; simp at g0)) e
            | error q => exact primary135_gete h hf rfl (by rw [beq_eq_false_iff_ne]; exact k5) (by rw [beq_eq_false_iff_ne]; exact k6) (by rw [beq_eq_false_iff_ne]; exact k7) (by rw [beq_eq_false_iff_ne]; exact k2) g0 hT (hT.next _ hf.at_ (fun e1 => by rw [hend e1] at g0; simp at g0)) e
          · rw [if_neg g0]
            by_cases g1 : (tk toks s.pl).text = ⟨#[112, 117, 116, 98, 121, 116, 101]⟩
            · rw [if_pos g1]
              cases e : callF toks s with
              | ok s2 => exact primary135_put h hf rfl (by rw [beq_eq_false_iff_ne]; exact k5) (by rw [beq_eq_false_iff_ne]; exact k6) (by rw [beq_eq_false_iff_ne]; exact k7) (by rw [beq_eq_false_iff_ne]; exact k2) g1 hT (hT.next _ hf.at_ (fun e1 => by rw [hend e1] at g1; simp at g1)) e
              | error q => exact primary135_pute h hf rfl (by rw [beq_eq_false_iff_ne]; exact k5) (by rw [beq_eq_false_iff_ne]; exact k6) (by rw [beq_eq_false_iff_ne]; exact k7) (by rw [beq_eq_false_iff_ne]; exact k2) g1 hT (hT.next _ hf.at_ (fun e1 => by rw [hend e1] at g1; simp at g1)) e
            · rw [if_neg g1]
              exact primary135_wrong h hf rfl (by rw [beq_eq_false_iff_ne]; exact k5) (by rw [beq_eq_false_iff_ne]; exact k6) (by rw [beq_eq_false_iff_ne]; exact k7) (by rw [beq_eq_false_iff_ne]; exact k2) (toList_ne' g0) (toList_ne' g1)⟩
def st86F (toks : List Tk) (s : St) (l : List Dn) (d : Dn) : Except Int St :=
  if levF (signAt toks s.pl) = 0 then
    .ok (finDown 1 s.begun.length s)
  else
    .ok { finDown (levF (signAt toks s.pl)) s.begun.length s with pl := s.pl + 1, todo := 85 :: 86 :: s.todo, begun := ⟨⟨if levF (signAt toks s.pl) ≤ 3 then 11 else 10, signAt toks s.pl, 0, false, d.start⟩, levF (signAt toks s.pl), l.length⟩ :: (finDown (levF (signAt toks s.pl)) s.begun.length s).begun }
theorem goes86 {toks : List Tk} {s : St} (hf : Fine toks s) (hw : WfB s.done.length s.begun) {l : List Dn} {d : Dn} (hd : ¬ levF (signAt toks s.pl) = 0 → (finDown (levF (signAt toks s.pl)) s.begun.length s).done = l ++ [d]) : Goes toks 86 s (st86F toks s l d) := ⟨fun _ _ => by kernel_rfl, fun W B p hB hO h => by
  unfold st86F
  by_cases h1 : levF (signAt toks s.pl) = 0
  · rw [if_pos h1]
    exact operator86_n h hf hO (rd_pos h hB) rfl h1 hw
  · rw [if_neg h1]
    exact operator86_y h hf hO (rd_pos h hB) rfl rfl (lev_in h1).1 (lev_in h1).2 (by
      by_cases h3 : levF (signAt toks s.pl) ≤ 3
      · rw [if_pos h3]; exact .inl ⟨h3, rfl⟩
      · rw [if_neg h3]; exact .inr ⟨h3, rfl⟩) hw (hd h1)⟩
end Go.Proofs.YtjeioblhpfogfaaGreatDoor
namespace Go.Proofs.YtjeioblhpfogfaaGreatDoor
open Go.RowKit

/-- What a piece comes to: trees and the place behind them, or the place of what is wrong. -/
abbrev Rs := Except Int (List Tr × Nat)
/-- The pieces; those with an R go on behind what was read (its trees, and where it began). -/
abbrev Pc := Unit ⊕ (Int × List Tr) ⊕ Unit ⊕ (Int × List Tr) ⊕ Int ⊕ (Int × Int × List Tr) ⊕ Unit ⊕ Unit ⊕ (Int × List Tr) ⊕ Unit ⊕ (ByteArray × List Tr) ⊕ Bool ⊕ (Bool × NdH × List Tr) ⊕ (Bool × Int × List Tr) ⊕ Unit ⊕ List Tr ⊕ Unit ⊕ Unit ⊕ (Int × List Tr) ⊕ (Int × ByteArray × List Tr) ⊕ Unit ⊕ List Tr
abbrev Pc.expr : Pc := .inl ()
abbrev Pc.exprR (fr : Int) (n : List Tr) : Pc := .inr (.inl (fr, n))
abbrev Pc.cond : Pc := .inr (.inr (.inl ()))
abbrev Pc.condR (fr : Int) (n : List Tr) : Pc := .inr (.inr (.inr (.inl (fr, n))))
abbrev Pc.bin (lv : Int) : Pc := .inr (.inr (.inr (.inr (.inl lv))))
abbrev Pc.binR (lv : Int) (fr : Int) (n : List Tr) : Pc := .inr (.inr (.inr (.inr (.inr (.inl (lv, fr, n))))))
abbrev Pc.un : Pc := .inr (.inr (.inr (.inr (.inr (.inr (.inl ()))))))
abbrev Pc.post : Pc := .inr (.inr (.inr (.inr (.inr (.inr (.inr (.inl ())))))))
abbrev Pc.postR (fr : Int) (n : List Tr) : Pc := .inr (.inr (.inr (.inr (.inr (.inr (.inr (.inr (.inl (fr, n)))))))))
abbrev Pc.prim : Pc := .inr (.inr (.inr (.inr (.inr (.inr (.inr (.inr (.inr (.inl ())))))))))
abbrev Pc.items (en : ByteArray) (acc : List Tr) : Pc := .inr (.inr (.inr (.inr (.inr (.inr (.inr (.inr (.inr (.inr (.inl (en, acc)))))))))))
abbrev Pc.var (bare : Bool) : Pc := .inr (.inr (.inr (.inr (.inr (.inr (.inr (.inr (.inr (.inr (.inr (.inl bare)))))))))))
abbrev Pc.init (bare : Bool) (x : NdH) (ks : List Tr) : Pc := .inr (.inr (.inr (.inr (.inr (.inr (.inr (.inr (.inr (.inr (.inr (.inr (.inl (bare, x, ks)))))))))))))
abbrev Pc.varsR (bare : Bool) (fr : Int) (acc : List Tr) : Pc := .inr (.inr (.inr (.inr (.inr (.inr (.inr (.inr (.inr (.inr (.inr (.inr (.inr (.inl (bare, fr, acc))))))))))))))
abbrev Pc.param : Pc := .inr (.inr (.inr (.inr (.inr (.inr (.inr (.inr (.inr (.inr (.inr (.inr (.inr (.inr (.inl ()))))))))))))))
abbrev Pc.params (acc : List Tr) : Pc := .inr (.inr (.inr (.inr (.inr (.inr (.inr (.inr (.inr (.inr (.inr (.inr (.inr (.inr (.inr (.inl acc)))))))))))))))
abbrev Pc.stmt : Pc := .inr (.inr (.inr (.inr (.inr (.inr (.inr (.inr (.inr (.inr (.inr (.inr (.inr (.inr (.inr (.inr (.inl ()))))))))))))))))
abbrev Pc.blk : Pc := .inr (.inr (.inr (.inr (.inr (.inr (.inr (.inr (.inr (.inr (.inr (.inr (.inr (.inr (.inr (.inr (.inr (.inl ())))))))))))))))))
abbrev Pc.blkR (fr : Int) (acc : List Tr) : Pc := .inr (.inr (.inr (.inr (.inr (.inr (.inr (.inr (.inr (.inr (.inr (.inr (.inr (.inr (.inr (.inr (.inr (.inr (.inl (fr, acc)))))))))))))))))))
abbrev Pc.membs (fr : Int) (nm : ByteArray) (acc : List Tr) : Pc := .inr (.inr (.inr (.inr (.inr (.inr (.inr (.inr (.inr (.inr (.inr (.inr (.inr (.inr (.inr (.inr (.inr (.inr (.inr (.inl (fr, nm, acc))))))))))))))))))))
abbrev Pc.outer : Pc := .inr (.inr (.inr (.inr (.inr (.inr (.inr (.inr (.inr (.inr (.inr (.inr (.inr (.inr (.inr (.inr (.inr (.inr (.inr (.inr (.inl ()))))))))))))))))))))
abbrev Pc.prog (acc : List Tr) : Pc := .inr (.inr (.inr (.inr (.inr (.inr (.inr (.inr (.inr (.inr (.inr (.inr (.inr (.inr (.inr (.inr (.inr (.inr (.inr (.inr (.inr (acc)))))))))))))))))))))
/-- A plain program: an answer, or a piece to be read, and what is done then. -/
structure Pg where
  val : Except Rs (Pc × Nat × (List Tr → Nat → Pg))
abbrev Pg.ret (r : Rs) : Pg := ⟨.error r⟩
abbrev Pg.call (c : Pc) (k : Nat) (f : List Tr → Nat → Pg) : Pg := ⟨.ok (c, k, f)⟩
def Pg.back (ts : List Tr) (k : Nat) : Pg := .ret (.ok (ts, k))
def Pg.wrong (toks : List Tk) (k : Nat) : Pg := .ret (.error (tk toks k).pos)
def eat (toks : List Tk) (c : ByteArray) (k : Nat) (f : Nat → Pg) : Pg := if signAt toks k = c then f (k + 1) else .wrong toks k
def nam (toks : List Tk) (k : Nat) (f : ByteArray → Nat → Pg) : Pg := if (tk toks k).kind = 2 then f (tk toks k).text (k + 1) else .wrong toks k
def typ (toks : List Tk) (k : Nat) (f : ByteArray → Nat → Pg) : Pg :=
  if tyWord (signAt toks k) = true then
    if signAt toks k = ⟨#[115, 116, 114, 117, 99, 116]⟩ then nam toks (k + 1) fun t k1 => f (structW t) k1
    else f (signAt toks k) (k + 1)
  else .wrong toks k
def tyT (toks : List Tk) (k : Nat) (t : ByteArray) : Tr := Tr.node ⟨16, t, 0, false, (tk toks k).pos⟩ []
def noneT (toks : List Tk) (k : Nat) : Tr := Tr.node ⟨56, ⟨#[]⟩, 0, false, (tk toks k).pos⟩ []
def tst (toks : List Tk) (k : Nat) (f : List Tr → Nat → Pg) : Pg :=
  eat toks ⟨#[40]⟩ k fun k1 => .call .expr k1 fun ts k2 => eat toks ⟨#[41]⟩ k2 fun k3 => f ts k3
/-- An expression, or nothing ahead of a mark; then the mark. -/
def prt (toks : List Tk) (en : ByteArray) (k : Nat) (f : List Tr → Nat → Pg) : Pg :=
  if signAt toks k = en then f [noneT toks k] (k + 1) else .call .expr k fun ts k1 => eat toks en k1 fun k2 => f ts k2
def kindOf : List Tr → Int
  | .slice _ [.held x] :: _ => x.kind
  | _ => 0
theorem kindOf_node (x : NdH) (ks r : List Tr) : kindOf (Tr.node x ks :: r) = x.kind := rfl
def calP (toks : List Tk) (k : Nat) : Pg :=
  eat toks ⟨#[40]⟩ (k + 1) fun k1 =>
    if signAt toks k1 = ⟨#[41]⟩ then .back [Tr.node ⟨8, (tk toks k).text, 0, false, (tk toks k).pos⟩ []] (k1 + 1)
    else .call (.items ⟨#[41]⟩ []) k1 fun ts k2 => .back [Tr.node ⟨8, (tk toks k).text, 0, false, (tk toks k).pos⟩ ts] k2
/-- What each piece is read as. -/
def body (toks : List Tk) : Pc → Nat → Pg
  | .inl (), k => .call .cond k fun ts k1 => .call (.exprR (tk toks k).pos ts) k1 .back
  | .inr (.inl (fr, n)), k =>
    if asgW (signAt toks k) = true then
      if plK (kindOf n) = true then .call .expr (k + 1) fun ts k1 => .back [Tr.node ⟨13, signAt toks k, 0, false, fr⟩ (n ++ ts)] k1
      else .wrong toks k
    else .back n k
  | .inr (.inr (.inl ())), k => .call (.bin 2) k fun ts k1 => .call (.condR (tk toks k).pos ts) k1 .back
  | .inr (.inr (.inr (.inl (fr, n)))), k =>
    if signAt toks k = ⟨#[63]⟩ then
      .call .expr (k + 1) fun a k1 => eat toks ⟨#[58]⟩ k1 fun k2 => .call .cond k2 fun c k3 => .back [Tr.node ⟨12, ⟨#[]⟩, 0, false, fr⟩ (n ++ a ++ c)] k3
    else .back n k
  | .inr (.inr (.inr (.inr (.inl lv)))), k => .call .un k fun ts k1 => .call (.binR lv (tk toks k).pos ts) k1 .back
  | .inr (.inr (.inr (.inr (.inr (.inl (lv, fr, n)))))), k =>
    if levF (signAt toks k) < lv ∨ levF (signAt toks k) = 0 then .back n k
    else .call (.bin (levF (signAt toks k) + 1)) (k + 1) fun ts k1 =>
      .call (.binR lv fr [Tr.node ⟨if levF (signAt toks k) ≤ 3 then 11 else 10, signAt toks k, 0, false, fr⟩ (n ++ ts)]) k1 .back
  | .inr (.inr (.inr (.inr (.inr (.inr (.inl ())))))), k =>
    if signAt toks k = ⟨#[45]⟩ ∨ signAt toks k = ⟨#[126]⟩ ∨ signAt toks k = ⟨#[33]⟩ ∨ signAt toks k = ⟨#[38]⟩ then
      .call .un (k + 1) fun ts k1 => .back [Tr.node ⟨9, signAt toks k, 0, false, (tk toks k).pos⟩ ts] k1
    else if signAt toks k = ⟨#[115, 105, 122, 101, 111, 102]⟩ then
      if signAt toks (k + 1) = ⟨#[40]⟩ ∧ tyWord (signAt toks (k + 2)) = true then
        typ toks (k + 2) fun t k1 => eat toks ⟨#[41]⟩ k1 fun k2 => .back [Tr.node ⟨15, ⟨#[]⟩, 0, false, (tk toks k).pos⟩ [tyT toks (k + 2) t]] k2
      else .call .un (k + 1) fun ts k1 => .back [Tr.node ⟨15, ⟨#[]⟩, 0, false, (tk toks k).pos⟩ ts] k1
    else if signAt toks k = ⟨#[40]⟩ ∧ tyWord (signAt toks (k + 1)) = true then
      typ toks (k + 1) fun t k1 => eat toks ⟨#[41]⟩ k1 fun k2 => .call .un k2 fun ts k3 => .back [Tr.node ⟨14, ⟨#[]⟩, 0, false, (tk toks k).pos⟩ (tyT toks (k + 1) t :: ts)] k3
    else .call .post k .back
  | .inr (.inr (.inr (.inr (.inr (.inr (.inr (.inl ()))))))), k => .call .prim k fun ts k1 => .call (.postR (tk toks k).pos ts) k1 .back
  | .inr (.inr (.inr (.inr (.inr (.inr (.inr (.inr (.inl (fr, n))))))))), k =>
    if signAt toks k = ⟨#[91]⟩ then
      .call .expr (k + 1) fun ts k1 => eat toks ⟨#[93]⟩ k1 fun k2 => .call (.postR fr [Tr.node ⟨5, ⟨#[]⟩, 0, false, fr⟩ (n ++ ts)]) k2 .back
    else if signAt toks k = ⟨#[46]⟩ then
      nam toks (k + 1) fun t k1 => .call (.postR fr [Tr.node ⟨6, t, 0, false, fr⟩ n]) k1 .back
    else if signAt toks k = ⟨#[45, 62]⟩ then
      nam toks (k + 1) fun t k1 => .call (.postR fr [Tr.node ⟨7, t, 0, false, fr⟩ n]) k1 .back
    else .back n k
  | .inr (.inr (.inr (.inr (.inr (.inr (.inr (.inr (.inr (.inl ()))))))))), k =>
    if signAt toks k = ⟨#[40]⟩ then .call .expr (k + 1) fun ts k1 => eat toks ⟨#[41]⟩ k1 fun k2 => .back ts k2
    else if (tk toks k).kind = 5 then .back [Tr.node ⟨1, ⟨#[]⟩, (tk toks k).num, (tk toks k).uns, (tk toks k).pos⟩ []] (k + 1)
    else if (tk toks k).kind = 6 then .back [Tr.node ⟨2, ⟨#[]⟩, (tk toks k).num, false, (tk toks k).pos⟩ []] (k + 1)
    else if (tk toks k).kind = 7 then .back [Tr.node ⟨3, (tk toks k).text, 0, false, (tk toks k).pos⟩ []] (k + 1)
    else if (tk toks k).kind = 2 then
      if signAt toks (k + 1) = ⟨#[40]⟩ then calP toks k
      else .back [Tr.node ⟨4, (tk toks k).text, 0, false, (tk toks k).pos⟩ []] (k + 1)
    else if (tk toks k).text = ⟨#[103, 101, 116, 98, 121, 116, 101]⟩ ∨ (tk toks k).text = ⟨#[112, 117, 116, 98, 121, 116, 101]⟩ then calP toks k
    else .wrong toks k
  | .inr (.inr (.inr (.inr (.inr (.inr (.inr (.inr (.inr (.inr (.inl (en, acc))))))))))), k => .call .expr k fun ts k1 =>
    if signAt toks k1 = ⟨#[44]⟩ then .call (.items en (acc ++ ts)) (k1 + 1) .back else eat toks en k1 fun k2 => .back (acc ++ ts) k2
  | .inr (.inr (.inr (.inr (.inr (.inr (.inr (.inr (.inr (.inr (.inr (.inl bare))))))))))), k => nam toks k fun t k1 =>
    if signAt toks k1 = ⟨#[91]⟩ then
      prt toks ⟨#[93]⟩ (k1 + 1) fun ts k2 => .call (.init bare ⟨43, t, 0, true, (tk toks k).pos⟩ ts) k2 .back
    else .call (.init bare ⟨43, t, 0, false, (tk toks k).pos⟩ []) k1 .back
  | .inr (.inr (.inr (.inr (.inr (.inr (.inr (.inr (.inr (.inr (.inr (.inr (.inl (bare, x, ks))))))))))))), k =>
    if bare = true ∨ ¬ signAt toks k = ⟨#[61]⟩ then .back [Tr.node x ks] k
    else if x.flag = true ∧ signAt toks (k + 1) = ⟨#[123]⟩ then
      .call (.items ⟨#[125]⟩ []) (k + 2) fun ts k1 => .back [Tr.node x (ks ++ [Tr.node ⟨44, ⟨#[]⟩, 0, false, (tk toks (k + 1)).pos⟩ ts])] k1
    else .call .expr (k + 1) fun ts k1 => .back [Tr.node x (ks ++ ts)] k1
  | .inr (.inr (.inr (.inr (.inr (.inr (.inr (.inr (.inr (.inr (.inr (.inr (.inr (.inl (bare, fr, acc)))))))))))))), k => .call (.var bare) k fun ts k1 =>
    if signAt toks k1 = ⟨#[44]⟩ then .call (.varsR bare fr (acc ++ ts)) (k1 + 1) .back
    else eat toks ⟨#[59]⟩ k1 fun k2 => .back [Tr.node ⟨42, ⟨#[]⟩, 0, false, fr⟩ (acc ++ ts)] k2
  | .inr (.inr (.inr (.inr (.inr (.inr (.inr (.inr (.inr (.inr (.inr (.inr (.inr (.inr (.inl ())))))))))))))), k => typ toks k fun t k1 =>
    if signAt toks k1 = ⟨#[42]⟩ then nam toks (k1 + 1) fun nm k2 => .back [Tr.node ⟨46, nm, 1, false, (tk toks k).pos⟩ [tyT toks k t]] k2
    else nam toks k1 fun nm k2 =>
      if signAt toks k2 = ⟨#[91]⟩ then eat toks ⟨#[93]⟩ (k2 + 1) fun k3 => .back [Tr.node ⟨46, nm, 0, true, (tk toks k).pos⟩ [tyT toks k t]] k3
      else .back [Tr.node ⟨46, nm, 0, false, (tk toks k).pos⟩ [tyT toks k t]] k2
  | .inr (.inr (.inr (.inr (.inr (.inr (.inr (.inr (.inr (.inr (.inr (.inr (.inr (.inr (.inr (.inl acc))))))))))))))), k => .call .param k fun ts k1 =>
    if signAt toks k1 = ⟨#[44]⟩ then .call (.params (acc ++ ts)) (k1 + 1) .back else .back (acc ++ ts) k1
  | .inr (.inr (.inr (.inr (.inr (.inr (.inr (.inr (.inr (.inr (.inr (.inr (.inr (.inr (.inr (.inr (.inr (.inl ()))))))))))))))))), k => eat toks ⟨#[123]⟩ k fun k1 => .call (.blkR (tk toks k).pos []) k1 .back
  | .inr (.inr (.inr (.inr (.inr (.inr (.inr (.inr (.inr (.inr (.inr (.inr (.inr (.inr (.inr (.inr (.inr (.inr (.inl (fr, acc))))))))))))))))))), k =>
    if signAt toks k = ⟨#[125]⟩ then .back [Tr.node ⟨47, ⟨#[]⟩, 0, false, fr⟩ acc] (k + 1)
    else if tyWord (signAt toks k) = true then
      typ toks k fun t k1 => .call (.varsR false (tk toks k).pos [tyT toks k t]) k1 fun ts k2 => .call (.blkR fr (acc ++ ts)) k2 .back
    else .call .stmt k fun ts k1 => .call (.blkR fr (acc ++ ts)) k1 .back
  | .inr (.inr (.inr (.inr (.inr (.inr (.inr (.inr (.inr (.inr (.inr (.inr (.inr (.inr (.inr (.inr (.inl ())))))))))))))))), k =>
    if signAt toks k = ⟨#[123]⟩ then .call .blk k .back
    else if signAt toks k = ⟨#[59]⟩ then .back [noneT toks k] (k + 1)
    else if signAt toks k = ⟨#[105, 102]⟩ then tst toks (k + 1) fun a k1 => .call .stmt k1 fun c k2 =>
      if signAt toks k2 = ⟨#[101, 108, 115, 101]⟩ then .call .stmt (k2 + 1) fun d k3 => .back [Tr.node ⟨49, ⟨#[]⟩, 0, false, (tk toks k).pos⟩ (a ++ c ++ d)] k3
      else .back [Tr.node ⟨49, ⟨#[]⟩, 0, false, (tk toks k).pos⟩ (a ++ c)] k2
    else if signAt toks k = ⟨#[119, 104, 105, 108, 101]⟩ then tst toks (k + 1) fun a k1 => .call .stmt k1 fun c k2 => .back [Tr.node ⟨50, ⟨#[]⟩, 0, false, (tk toks k).pos⟩ (a ++ c)] k2
    else if signAt toks k = ⟨#[100, 111]⟩ then .call .stmt (k + 1) fun a k1 => eat toks ⟨#[119, 104, 105, 108, 101]⟩ k1 fun k2 => tst toks k2 fun c k3 => eat toks ⟨#[59]⟩ k3 fun k4 => .back [Tr.node ⟨51, ⟨#[]⟩, 0, false, (tk toks k).pos⟩ (a ++ c)] k4
    else if signAt toks k = ⟨#[102, 111, 114]⟩ then eat toks ⟨#[40]⟩ (k + 1) fun k1 => prt toks ⟨#[59]⟩ k1 fun a k2 => prt toks ⟨#[59]⟩ k2 fun c k3 => prt toks ⟨#[41]⟩ k3 fun d k4 => .call .stmt k4 fun e k5 => .back [Tr.node ⟨52, ⟨#[]⟩, 0, false, (tk toks k).pos⟩ (a ++ c ++ d ++ e)] k5
    else if signAt toks k = ⟨#[98, 114, 101, 97, 107]⟩ then eat toks ⟨#[59]⟩ (k + 1) fun k1 => .back [Tr.node ⟨53, ⟨#[]⟩, 0, false, (tk toks k).pos⟩ []] k1
    else if signAt toks k = ⟨#[99, 111, 110, 116, 105, 110, 117, 101]⟩ then eat toks ⟨#[59]⟩ (k + 1) fun k1 => .back [Tr.node ⟨54, ⟨#[]⟩, 0, false, (tk toks k).pos⟩ []] k1
    else if signAt toks k = ⟨#[114, 101, 116, 117, 114, 110]⟩ then
      if signAt toks (k + 1) = ⟨#[59]⟩ then .back [Tr.node ⟨55, ⟨#[]⟩, 0, false, (tk toks k).pos⟩ []] (k + 2)
      else .call .expr (k + 1) fun a k1 => eat toks ⟨#[59]⟩ k1 fun k2 => .back [Tr.node ⟨55, ⟨#[]⟩, 0, false, (tk toks k).pos⟩ a] k2
    else .call .expr k fun a k1 => eat toks ⟨#[59]⟩ k1 fun k2 => .back [Tr.node ⟨48, ⟨#[]⟩, 0, false, (tk toks k).pos⟩ a] k2
  | .inr (.inr (.inr (.inr (.inr (.inr (.inr (.inr (.inr (.inr (.inr (.inr (.inr (.inr (.inr (.inr (.inr (.inr (.inr (.inl (fr, nm, acc)))))))))))))))))))), k =>
    if signAt toks k = ⟨#[125]⟩ then eat toks ⟨#[59]⟩ (k + 1) fun k1 => .back [Tr.node ⟨41, nm, 0, false, fr⟩ acc] k1
    else typ toks k fun t k1 => .call (.varsR true (tk toks k).pos [tyT toks k t]) k1 fun ts k2 => .call (.membs fr nm (acc ++ ts)) k2 .back
  | .inr (.inr (.inr (.inr (.inr (.inr (.inr (.inr (.inr (.inr (.inr (.inr (.inr (.inr (.inr (.inr (.inr (.inr (.inr (.inr (.inl ())))))))))))))))))))), k => typ toks k fun t k1 =>
    if signAt toks k = ⟨#[115, 116, 114, 117, 99, 116]⟩ ∧ signAt toks k1 = ⟨#[123]⟩ then .call (.membs (tk toks k).pos (tk toks (k + 1)).text []) (k1 + 1) .back
    else nam toks k1 fun nm k2 =>
      if signAt toks k2 = ⟨#[40]⟩ then
        if signAt toks (k2 + 1) = ⟨#[41]⟩ then .call .blk (k2 + 2) fun bl k3 => .back [Tr.node ⟨45, nm, 0, false, (tk toks k).pos⟩ (tyT toks k t :: bl)] k3
        else .call (.params []) (k2 + 1) fun ps k3 => eat toks ⟨#[41]⟩ k3 fun k4 => .call .blk k4 fun bl k5 => .back [Tr.node ⟨45, nm, 0, false, (tk toks k).pos⟩ (tyT toks k t :: (ps ++ bl))] k5
      else .call (.varsR false (tk toks k).pos [tyT toks k t]) k1 .back
  | .inr (.inr (.inr (.inr (.inr (.inr (.inr (.inr (.inr (.inr (.inr (.inr (.inr (.inr (.inr (.inr (.inr (.inr (.inr (.inr (.inr (acc))))))))))))))))))))), k =>
    if (tk toks k).kind = 1 then .back [Tr.node ⟨40, ⟨#[]⟩, 0, false, 0⟩ acc] k
    else .call .outer k fun ts k1 => .call (.prog (acc ++ ts)) k1 .back
/-- A plain program's answer, if so many calls in one another suffice. -/
def runP (toks : List Tk) : Nat → Pg → Option Rs
  | _, ⟨.error r⟩ => some r
  | 0, ⟨.ok _⟩ => none
  | n + 1, ⟨.ok (c, k, f)⟩ => match runP toks n (body toks c k) with
    | none => none
    | some (.error e) => some (.error e)
    | some (.ok (ts, k1)) => runP toks n (f ts k1)
/-- More calls lead to no other answer. -/
theorem runP_more (toks : List Tk) : ∀ (n : Nat) (g : Pg) (r : Rs), runP toks n g = some r → ∀ m, n ≤ m → runP toks m g = some r
  | n, ⟨.error r⟩, r', h, m, _ => by
    rw [runP] at h ⊢
    exact h
  | 0, ⟨.ok _⟩, r', h, m, _ => by
    rw [runP] at h
    cases h
  | n + 1, ⟨.ok (c, k, f)⟩, r', h, m, hm => by
    obtain ⟨m, rfl⟩ : ∃ j, m = j + 1 := ⟨m - 1, by omega⟩
    rw [runP] at h ⊢
    cases e : runP toks n (body toks c k) with
    | none => rw [e] at h; cases h
    | some q =>
      rw [e] at h
      rw [runP_more toks n _ _ e m (by omega)]
      cases q with
      | error e => exact h
      | ok q =>
        obtain ⟨ts, k1⟩ := q
        exact runP_more toks n _ _ h m (by omega)
end Go.Proofs.YtjeioblhpfogfaaGreatDoor
namespace Go.Proofs.YtjeioblhpfogfaaGreatDoor
open Go.RowKit

/-- What a program comes to, if it comes to trees, lies at this place at least, and ahead of the tokens' end. -/
def Ad (toks : List Tk) (n low z bs : Nat) (g : Pg) : Prop := ∀ ts k', runP toks n g = some (.ok (ts, k')) → low ≤ k' ∧ k' < toks.length ∧ ts.length + z ≤ k' + bs
def loP : Pc → Nat
  | .inr (.inl (_, _)) => 0
  | .inr (.inr (.inr (.inl (_, _)))) => 0
  | .inr (.inr (.inr (.inr (.inr (.inl (_, _, _)))))) => 0
  | .inr (.inr (.inr (.inr (.inr (.inr (.inr (.inr (.inl (_, _))))))))) => 0
  | .inr (.inr (.inr (.inr (.inr (.inr (.inr (.inr (.inr (.inr (.inr (.inr (.inl (_, _, _))))))))))))) => 0
  | .inr (.inr (.inr (.inr (.inr (.inr (.inr (.inr (.inr (.inr (.inr (.inr (.inr (.inr (.inr (.inr (.inr (.inr (.inr (.inr (.inr (_))))))))))))))))))))) => 0
  | _ => 1
/-- How many trees a piece has at its beginning. -/
def baP : Pc → Nat
  | .inr (.inl (_, n)) => n.length
  | .inr (.inr (.inr (.inl (_, n)))) => n.length
  | .inr (.inr (.inr (.inr (.inr (.inl (_, _, n)))))) => n.length
  | .inr (.inr (.inr (.inr (.inr (.inr (.inr (.inr (.inl (_, n))))))))) => n.length
  | .inr (.inr (.inr (.inr (.inr (.inr (.inr (.inr (.inr (.inr (.inl (_, n))))))))))) => n.length
  | .inr (.inr (.inr (.inr (.inr (.inr (.inr (.inr (.inr (.inr (.inr (.inr (.inr (.inr (.inr (.inl n))))))))))))))) => n.length
  | .inr (.inr (.inr (.inr (.inr (.inr (.inr (.inr (.inr (.inr (.inr (.inr (.inl (_, _, _))))))))))))) => 1
  | .inr (.inr (.inr (.inr (.inr (.inr (.inr (.inr (.inr (.inr (.inr (.inr (.inr (.inr (.inr (.inr (.inr (.inr (.inr (.inr (.inr (_))))))))))))))))))))) => 1
  | _ => 0
theorem Ad.back {toks : List Tk} {n low z bs k : Nat} {ts : List Tr} (h : low ≤ k) (hk : k < toks.length) (hl : ts.length + z ≤ k + bs) : Ad toks n low z bs (.back ts k) := by
  intro ts' k' e
  unfold Pg.back at e
  rw [runP] at e
  injection e with e
  injection e with e
  injection e with e1 e2
  subst e1 e2
  exact ⟨h, hk, hl⟩
theorem Ad.wrong {toks : List Tk} {n low z bs k : Nat} : Ad toks n low z bs (.wrong toks k) := by
  intro ts' k' e
  unfold Pg.wrong at e
  rw [runP] at e
  injection e with e
  cases e
theorem Ad.ite {toks : List Tk} {n low z bs : Nat} {c : Prop} [Decidable c] {a b : Pg} (ha : c → Ad toks n low z bs a) (hb : ¬ c → Ad toks n low z bs b) : Ad toks n low z bs (if c then a else b) := by
  by_cases h : c
  · rw [if_pos h]; exact ha h
  · rw [if_neg h]; exact hb h
theorem Ad.eat {toks : List Tk} {n low z bs k : Nat} {c : ByteArray} {f : Nat → Pg} (hT : TokOk toks) (hc : ¬ c = ⟨#[]⟩) (h : k + 1 < toks.length → Ad toks n low z bs (f (k + 1))) : Ad toks n low z bs (eat toks c k f) := by
  unfold Go.Proofs.YtjeioblhpfogfaaGreatDoor.eat
  exact Ad.ite (fun e => h (hT.sign e hc)) (fun _ => Ad.wrong)
theorem tk_end {toks : List Tk} {k : Nat} (h : ¬ (tk toks k).kind = 1) : k < toks.length := by
  apply Classical.byContradiction
  intro hn
  apply h
  unfold tk
  rw [List.getElem?_eq_none (by omega)]
  rfl
theorem Ad.nam {toks : List Tk} {n low z bs k : Nat} {f : ByteArray → Nat → Pg} (hT : TokOk toks) (h : k + 1 < toks.length → Ad toks n low z bs (f (tk toks k).text (k + 1))) : Ad toks n low z bs (nam toks k f) := by
  unfold Go.Proofs.YtjeioblhpfogfaaGreatDoor.nam
  refine Ad.ite (fun e => h ?_) (fun _ => Ad.wrong)
  have hk : ¬ (tk toks k).kind = 1 := by rw [e]; decide
  exact hT.next _ (tk_end hk) hk
theorem sign_on {toks : List Tk} (hT : TokOk toks) {k : Nat} (h : ¬ signAt toks k = ⟨#[]⟩) : k + 1 < toks.length := hT.sign rfl h
theorem Ad.typ {toks : List Tk} {n low z bs k : Nat} {f : ByteArray → Nat → Pg} (hT : TokOk toks) (h : ∀ t k1, k < k1 → k1 < toks.length → Ad toks n low z bs (f t k1)) : Ad toks n low z bs (typ toks k f) := by
  unfold Go.Proofs.YtjeioblhpfogfaaGreatDoor.typ
  refine Ad.ite (fun e => ?_) (fun _ => Ad.wrong)
  refine Ad.ite (fun e1 => ?_) (fun _ => ?_)
  · exact Ad.nam hT fun hk => h _ _ (by omega) hk
  · refine h _ _ (by omega) (sign_on hT fun e1 => ?_)
    rw [e1] at e
    simp [tyWord, toList_data] at e
/-- A list's end is a sign. -/
def okP : Pc → Prop
  | .inr (.inr (.inr (.inr (.inr (.inr (.inr (.inr (.inr (.inr (.inl (en, _))))))))))) => en = ⟨#[41]⟩ ∨ en = ⟨#[125]⟩
  | _ => True
theorem Ad.call {toks : List Tk} {n low z bs k : Nat} {c : Pc} {f : List Tr → Nat → Pg} (ih : ∀ m, m < n → ∀ c k, okP c → k < toks.length → Ad toks m (k + loP c) k (baP c) (body toks c k)) (hc : okP c) (hk : k < toks.length) (h : ∀ m ts k1, m < n → k + loP c ≤ k1 → k1 < toks.length → ts.length + k ≤ k1 + baP c → Ad toks m low z bs (f ts k1)) : Ad toks n low z bs (.call c k f) := by
  intro ts' k' e
  cases n with
  | zero => rw [runP] at e; cases e
  | succ n =>
    rw [runP] at e
    cases e1 : runP toks n (body toks c k) with
    | none => rw [e1] at e; cases e
    | some q =>
      rw [e1] at e
      cases q with
      | error q => injection e with e; cases e
      | ok q =>
        obtain ⟨ts1, k1⟩ := q
        obtain ⟨h1, h2, h3⟩ := ih n (by omega) c k hc hk ts1 k1 e1
        exact h n ts1 k1 (by omega) h1 h2 h3 ts' k' e
end Go.Proofs.YtjeioblhpfogfaaGreatDoor
namespace Go.Proofs.YtjeioblhpfogfaaGreatDoor
open Go.RowKit

theorem lev_none : levF ⟨#[]⟩ = 0 := by simp [levF, levFrom, opTab, toList_data]
theorem Ad.tst {toks : List Tk} {n low z bs k : Nat} {f : List Tr → Nat → Pg} (hT : TokOk toks) (ih : ∀ m, m < n → ∀ c k, okP c → k < toks.length → Ad toks m (k + loP c) k (baP c) (body toks c k)) (h : ∀ m ts k1, m ≤ n → k < k1 → k1 < toks.length → ts.length + k ≤ k1 → Ad toks m low z bs (f ts k1)) : Ad toks n low z bs (tst toks k f) := by
  unfold Go.Proofs.YtjeioblhpfogfaaGreatDoor.tst
  refine Ad.eat hT (by simp) fun h1 => Ad.call ih trivial h1 fun m ts k1 hm h2 h3 h5 => Ad.eat hT (by simp) fun h4 => h m ts _ (by omega) ?_ h4 ?_ <;> dsimp only [loP, baP] at h2 h5 <;> omega
theorem Ad.prt {toks : List Tk} {n low z bs k : Nat} {en : ByteArray} {f : List Tr → Nat → Pg} (hT : TokOk toks) (he : ¬ en = ⟨#[]⟩) (hk : k < toks.length) (ih : ∀ m, m < n → ∀ c k, okP c → k < toks.length → Ad toks m (k + loP c) k (baP c) (body toks c k)) (h : ∀ m ts k1, m ≤ n → k < k1 → k1 < toks.length → ts.length + k ≤ k1 → Ad toks m low z bs (f ts k1)) : Ad toks n low z bs (prt toks en k f) := by
  unfold Go.Proofs.YtjeioblhpfogfaaGreatDoor.prt
  refine Ad.ite (fun e => h _ _ _ (Nat.le_refl _) (by omega) (hT.sign e he) (by simp; omega)) (fun _ => Ad.call ih trivial hk fun m ts k1 hm h2 h3 h5 => Ad.eat hT he fun h4 => h m ts _ (by omega) ?_ h4 ?_) <;> dsimp only [loP, baP] at h2 h5 <;> omega
theorem Ad.iteS {toks : List Tk} {n low z bs k : Nat} {c : ByteArray} {a b : Pg} (hT : TokOk toks) (hc : ¬ c = ⟨#[]⟩) (ha : k + 1 < toks.length → Ad toks n low z bs a) (hb : Ad toks n low z bs b) : Ad toks n low z bs (if signAt toks k = c then a else b) := Ad.ite (fun e => ha (hT.sign e hc)) (fun _ => hb)
theorem Ad.iteC {toks : List Tk} {n low z bs k : Nat} {c : ByteArray} {q : Prop} [Decidable q] {a b : Pg} (hT : TokOk toks) (hc : ¬ c = ⟨#[]⟩) (ha : k + 1 < toks.length → Ad toks n low z bs a) (hb : Ad toks n low z bs b) : Ad toks n low z bs (if signAt toks k = c ∧ q then a else b) := Ad.ite (fun e => ha (hT.sign e.1 hc)) (fun _ => hb)
theorem Ad.iteD {toks : List Tk} {n low z bs k : Nat} {c : ByteArray} {q : Prop} [Decidable q] {a b : Pg} (hT : TokOk toks) (hc : ¬ c = ⟨#[]⟩) (ha : k + 1 < toks.length → Ad toks n low z bs a) (hb : Ad toks n low z bs b) : Ad toks n low z bs (if q ∧ signAt toks k = c then a else b) := Ad.ite (fun e => ha (hT.sign e.2 hc)) (fun _ => hb)
theorem Ad.iteA {toks : List Tk} {n low z bs k : Nat} {a b : Pg} (hT : TokOk toks) (ha : k + 1 < toks.length → Ad toks n low z bs a) (hb : Ad toks n low z bs b) : Ad toks n low z bs (if asgW (signAt toks k) = true then a else b) := Ad.ite (fun e => ha (sign_on hT (fun e1 => by rw [e1] at e; simp [asgW, toList_data] at e))) (fun _ => hb)
theorem Ad.iteL {toks : List Tk} {n low z bs k : Nat} {lv : Int} {a b : Pg} (hT : TokOk toks) (ha : Ad toks n low z bs a) (hb : k + 1 < toks.length → Ad toks n low z bs b) : Ad toks n low z bs (if levF (signAt toks k) < lv ∨ levF (signAt toks k) = 0 then a else b) := Ad.ite (fun _ => ha) (fun e => hb (sign_on hT (fun e1 => e (.inr (by rw [e1]; exact lev_none)))))
theorem Ad.iteU {toks : List Tk} {n low z bs k : Nat} {a b : Pg} (hT : TokOk toks) (ha : k + 1 < toks.length → Ad toks n low z bs a) (hb : Ad toks n low z bs b) : Ad toks n low z bs (if signAt toks k = ⟨#[45]⟩ ∨ signAt toks k = ⟨#[126]⟩ ∨ signAt toks k = ⟨#[33]⟩ ∨ signAt toks k = ⟨#[38]⟩ then a else b) := Ad.ite (fun e => ha (by rcases e with e | e | e | e <;> exact hT.sign e (by simp))) (fun _ => hb)
theorem Ad.iteI {toks : List Tk} {n low z bs k : Nat} {q : Prop} [Decidable q] {a b : Pg} (hT : TokOk toks) (ha : Ad toks n low z bs a) (hb : k + 1 < toks.length → Ad toks n low z bs b) : Ad toks n low z bs (if q ∨ ¬ signAt toks k = ⟨#[61]⟩ then a else b) := Ad.ite (fun _ => ha) (fun e => hb (hT.sign (Classical.not_not.1 fun h => e (.inr h)) (by simp)))
theorem Ad.iteK {toks : List Tk} {n low z bs k : Nat} {j : Int} {a b : Pg} (hT : TokOk toks) (hj : ¬ j = 1) (ha : k + 1 < toks.length → Ad toks n low z bs a) (hb : Ad toks n low z bs b) : Ad toks n low z bs (if (tk toks k).kind = j then a else b) := Ad.ite (fun e => ha (by
  have hk : ¬ (tk toks k).kind = 1 := by rw [e]; exact hj
  exact hT.next _ (tk_end hk) hk)) (fun _ => hb)
theorem adv {toks : List Tk} (hT : TokOk toks) (n : Nat) : ∀ c k, okP c → k < toks.length → Ad toks n (k + loP c) k (baP c) (body toks c k) := by
  induction n using Nat.strongRecOn with
  | ind n ih =>
    intro c k hc hk
    rcases c with ⟨⟩ | ⟨fr, nt⟩ | ⟨⟩ | ⟨fr, nt⟩ | lv | ⟨lv, fr, nt⟩ | ⟨⟩ | ⟨⟩ | ⟨fr, nt⟩ | ⟨⟩ | ⟨en, acc⟩ | bare | ⟨bare, x, ks⟩ | ⟨bare, fr, acc⟩ | ⟨⟩ | acc | ⟨⟩ | ⟨⟩ | ⟨fr, acc⟩ | ⟨fr, nm, acc⟩ | ⟨⟩ | acc <;> unfold body <;> dsimp only [loP, baP, calP, okP] at hc ⊢
    all_goals
      repeat' first
        | exact Ad.wrong
        | (refine Ad.back ?_ ?_ ?_ <;> (try simp only [List.length_append, List.length_cons, List.length_nil]) <;> omega)
        | refine Ad.eat hT (by rcases hc with rfl | rfl <;> simp) fun _ => ?_
        | refine Ad.eat hT (by simp) fun _ => ?_
        | refine Ad.nam hT fun _ => ?_
        | refine Ad.typ hT fun _ _ _ _ => ?_
        | refine Ad.tst hT (fun m hm => ih m (by omega)) fun _ _ _ _ _ _ _ => ?_
        | refine Ad.prt hT (by simp) (by omega) (fun m hm => ih m (by omega)) fun _ _ _ _ _ _ _ => ?_
        | (refine Ad.call (fun m hm => ih m (by omega)) (by first | trivial | exact hc | simp [okP]) (by omega) fun m1 ts1 k1 hm1 hl1 hb1 hn1 => ?_; dsimp only [loP, baP] at hl1 hn1; try simp only [List.length_append, List.length_cons, List.length_nil] at hn1)
        | refine Ad.iteS hT (by simp) (fun _ => ?_) ?_
        | refine Ad.iteD hT (by simp) (fun _ => ?_) ?_
        | refine Ad.iteC hT (by simp) (fun _ => ?_) ?_
        | refine Ad.iteA hT (fun _ => ?_) ?_
        | refine Ad.iteL hT ?_ (fun _ => ?_)
        | refine Ad.iteU hT (fun _ => ?_) ?_
        | refine Ad.iteI hT ?_ (fun _ => ?_)
        | refine Ad.iteK hT (by decide) (fun _ => ?_) ?_
        | refine Ad.ite (fun _ => ?_) (fun _ => ?_)
end Go.Proofs.YtjeioblhpfogfaaGreatDoor
