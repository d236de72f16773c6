/- Key, Check, Point of the program and of the reference; num, small of the law. Conditions: as each theorem states. -/
import Derived.Maps.AppendAt
import Derived.Deep.QuietTactic
import Derived.Test.YtgipkikedacmdaaGreatProg
import Derived.Test.YtgipkikedacmdaaGreatMg04
import Derived.Test.YtgipkikedacmdaaGreatMg06
import Derived.Test.YtgipkikedacmdaaGreatMg05
set_option maxRecDepth 100000
set_option maxHeartbeats 16000000
set_option linter.unusedVariables false
set_option linter.unusedSimpArgs false
namespace Go.Proofs.YtgipkikedacmdaaGreat
namespace S3
open Go.RowKit
def tailO : Option ByteArray → List Sp
 | none => []
 | some f => [(f, ⟨#[]⟩)]
def SetAt (P : ByteArray → Bool) (ms : List ByteArray) (k : Nat) (o : Option ByteArray) (acc : List Sp) : Prop := ∃ done, acc = done ++ tailO o ∧ done ++ buildL P o (ms.drop k) = buildL P none ms ∧ acc.length ≤ k

def keyB (k : ByteArray) : Bool := decide (1 ≤ k.size ∧ k.size ≤ 16)
theorem key_any (k : ByteArray) (w : World) : Calls Tryz.prog 205 #[.string k] w fun e w' => e = .returned (.int .i64 (if keyB k then 0 else 30)) ∧ w = w' := by
 by_cases h1 : k.size < 1
 ·have hv : keyB k = false := by simp [keyB]; omega
  have h1I : (k.size : Int) < 1 := by omega
  have hd : decide ((k.size : Int) < 1) = true := by simpa using h1I
  rw [hv]
  go_enter Tryz.func205, Tryz.ntmps205
  go_wp2
  go_ret
  exact ⟨rfl, rfl⟩
 ·by_cases h2 : 16 < k.size
  ·have hv : keyB k = false := by simp [keyB]; omega
   have h1I : ¬ (k.size : Int) < 1 := by omega
   have h2I : (16 : Int) < (k.size : Int) := by omega
   have hd : decide ((k.size : Int) < 1) = false := by simpa using h1I
   have hd2 : decide ((16 : Int) < (k.size : Int)) = true := by simpa using h2I
   rw [hv]
   go_enter Tryz.func205, Tryz.ntmps205
   go_wp2
   go_ret
   exact ⟨rfl, rfl⟩
  ·have hv : keyB k = true := by simp [keyB]; omega
   have h1I : ¬ (k.size : Int) < 1 := by omega
   have h2I : ¬ (16 : Int) < (k.size : Int) := by omega
   have hd : decide ((k.size : Int) < 1) = false := by simpa using h1I
   have hd2 : decide ((16 : Int) < (k.size : Int)) = false := by simpa using h2I
   rw [hv]
   go_enter Tryz.func205, Tryz.ntmps205
   go_wp2
   go_ret
   exact ⟨rfl, rfl⟩
theorem refkey_any (k : ByteArray) (w : World) : Calls Tryz.prog 141 #[.string k] w fun e w' => e = .returned (.bool (keyB k)) ∧ w = w' := by
 by_cases h1 : 1 ≤ k.size
 ·by_cases h2 : k.size ≤ 16
  ·have hv : keyB k = true := by simp [keyB]; omega
   have h1I : (1 : Int) ≤ (k.size : Int) := by omega
   have h2I : (k.size : Int) ≤ 16 := by omega
   have hd : decide ((1 : Int) ≤ (k.size : Int)) = true := by simpa using h1I
   have hd2 : decide ((k.size : Int) ≤ 16) = true := by simpa using h2I
   rw [hv]
   go_enter Tryz.func141, Tryz.ntmps141
   go_wp2
   go_ret
   exact ⟨rfl, rfl⟩
  ·have hv : keyB k = false := by simp [keyB]; omega
   have h1I : (1 : Int) ≤ (k.size : Int) := by omega
   have h2I : ¬ (k.size : Int) ≤ 16 := by omega
   have hd : decide ((1 : Int) ≤ (k.size : Int)) = true := by simpa using h1I
   have hd2 : decide ((k.size : Int) ≤ 16) = false := by simpa using h2I
   rw [hv]
   go_enter Tryz.func141, Tryz.ntmps141
   go_wp2
   go_ret
   exact ⟨rfl, rfl⟩
 ·have hv : keyB k = false := by simp [keyB]; omega
  have h1I : ¬ (1 : Int) ≤ (k.size : Int) := by omega
  have hd : decide ((1 : Int) ≤ (k.size : Int)) = false := by simpa using h1I
  rw [hv]
  go_enter Tryz.func141, Tryz.ntmps141
  go_wp2
  go_ret
  exact ⟨rfl, rfl⟩
def badS (s : Sp) : Bool := decide (17 < s.1.size) || decide (17 < s.2.size) || !fullS s
def checkN (l : List Sp) : Int := if 64 < l.length then 6 else if l.any badS then 30 else 0
theorem check_bad {l : List Sp} {k : Nat} {s : Sp} (hl : ¬ 64 < l.length) (hs : l[k]? = some s) (hb : badS s = true) : checkN l = 30 := by
 unfold checkN
 rw [if_neg hl, if_pos]
 exact List.any_eq_true.2 ⟨s, List.mem_of_getElem? hs, hb⟩
theorem check_good {l : List Sp} {k : Nat} (hl : ¬ 64 < l.length) (hk : l.length ≤ k) (h : (l.take k).any badS = false) : checkN l = 0 := by
 unfold checkN
 rw [List.take_of_length_le hk] at h
 rw [if_neg hl, h]
 rfl
end S3
end Go.Proofs.YtgipkikedacmdaaGreat
