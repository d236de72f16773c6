/- The contracts of an eye's inner methods int, text, bool, stamp, stamps. Conditions: as each theorem states. -/
import Derived.Laws.IdiomStrings
import Derived.Lib.BufferRead
import Derived.Test.YtddbmibfebhmjaaMg04
set_option maxRecDepth 100000
set_option maxHeartbeats 16000000
namespace Go.Proofs.Ytddbmibfebhmjaa
namespace S2
open Go.RowKit
theorem Bs.str {w : World} {g : Nat} {v : Value} {l : List UInt8} (h : Bs w g v l) : (convert 39 9 v).run Try.prog w = .ok (.string ⟨l.toArray⟩) w := by
 rcases h with ⟨rfl, rfl⟩ | ⟨o, cap, rfl, _, _, hc⟩
 ·exact Lib.run_convert_nil_bytes w 39 9 5 0 Try.underlying39 Try.underlying5 Try.underlying9
 ·refine run_convert_bytes_back w 39 9 5 ⟨g, o, none⟩ cap l Try.underlying39 Try.underlying5 Try.underlying9 fun j hj => ?_
  rw [add_plain]
  exact hc j _ (List.getElem?_eq_getElem hj)
def Blinded (w : World) (b g : Nat) (bl : Bool) (e : Ending) (w' : World) : Prop := e = .panicked blindCh ∧ (∃ l', EyeAt w' b g l' bl) ∧ Keeps (Only b) w w'
def Seen (w : World) (b g : Nat) (bl : Bool) (v : Value) (l' : List UInt8) (e : Ending) (w' : World) : Prop := e = .returned v ∧ EyeAt w' b g l' bl ∧ Keeps (Only b) w w'
def rd (l : List UInt8) : Int := wrap64 (leN (l.take 8))
theorem ret_bool {a b : Bool} (h : a = b) : Ending.returned (.bool a) = .returned (.bool b) := by rw [h]
theorem int_yes (w : World) (b g : Nat) (l : List UInt8) (bl : Bool) (he : EyeAt w b g l bl) (hn : 8 ≤ l.length) :
  Calls Try.prog 94 #[.pointer (some ⟨b, 0, none⟩)] w (Seen w b g bl (.int .i64 (rd l)) (l.drop 8)) := by
 have HE := Lib.hid he
 clear he
 go_enter Try.func94, Try.ntmps94
 go_wp2_with (go_at_call 108; refine (number_yes _ b g l bl 8 (Nat.le_refl _) HE.out hn).mono ?_; rintro e w1 ⟨rfl, he1, hk1⟩; have HE1 := Lib.hid he1; have HK1 := Lib.hid hk1; clear he1 hk1)
 go_ret
 exact ⟨rfl, HE1.out, HK1.out⟩
theorem int_no (w : World) (b g : Nat) (l : List UInt8) (bl : Bool) (he : EyeAt w b g l bl) (hn : l.length < 8) :
  Calls Try.prog 94 #[.pointer (some ⟨b, 0, none⟩)] w (Blinded w b g bl) := by
 have HE := Lib.hid he
 clear he
 go_enter Try.func94, Try.ntmps94
 go_wp2_with (go_at_call 108; refine (number_no _ b g l bl 8 HE.out hn).mono ?_; rintro e w1 ⟨rfl, rfl⟩)
 exact ⟨rfl, rfl, ⟨_, HE.out⟩, Keeps.refl _ _⟩
theorem bool_yes (w : World) (b g : Nat) (l : List UInt8) (bl : Bool) (he : EyeAt w b g l bl) (hn : 1 ≤ l.length) (n : Nat) (hv : leN (l.take 1) = n) (h1 : n ≤ 1) :
  Calls Try.prog 90 #[.pointer (some ⟨b, 0, none⟩)] w (Seen w b g bl (.bool (decide (n = 1))) (l.drop 1)) := by
 have HE := Lib.hid he
 have HV := Lib.hid hv
 clear he hv
 have hb : ((n : Int) == 1) = decide (n = 1) := by rw [Bool.eq_iff_iff]; simp; omega
 have HB := Lib.hid hb
 clear hb
 go_enter Try.func90, Try.ntmps90
 go_wp2_with (go_at_call 108; refine (number_yes _ b g l bl 1 (by decide) HE.out hn).mono ?_; rintro e w1 ⟨rfl, he1, hk1⟩; have HE1 := Lib.hid he1; have HK1 := Lib.hid hk1; clear he1 hk1; rw [HV.out])
 go_ret
 exact ⟨ret_bool (by first | rfl | congr | exact HB.out), HE1.out, HK1.out⟩
theorem bool_no (w : World) (b g : Nat) (l : List UInt8) (bl : Bool) (he : EyeAt w b g l bl) (n : Nat) (hv : leN (l.take 1) = n) (h1 : l.length < 1 ∨ 1 < n) :
  Calls Try.prog 90 #[.pointer (some ⟨b, 0, none⟩)] w (Blinded w b g bl) := by
 have HE := Lib.hid he
 have HV := Lib.hid hv
 clear he hv
 by_cases hn : l.length < 1
 ·go_enter Try.func90, Try.ntmps90
  go_wp2_with (go_at_call 108; refine (number_no _ b g l bl 1 HE.out hn).mono ?_; rintro e w1 ⟨rfl, rfl⟩)
  exact ⟨rfl, rfl, ⟨_, HE.out⟩, Keeps.refl _ _⟩
 ·have h2 : 1 < n := by omega
  clear h1
  go_enter Try.func90, Try.ntmps90
  go_wp2_with (go_at_call 108; refine (number_yes _ b g l bl 1 (by decide) HE.out (by omega)).mono ?_; rintro e w1 ⟨rfl, he1, hk1⟩; have HE1 := Lib.hid he1; have HK1 := Lib.hid hk1; clear he1 hk1; rw [HV.out])
  exact ⟨rfl, rfl, ⟨_, HE1.out⟩, HK1.out⟩
theorem text_yes (w : World) (b g : Nat) (l : List UInt8) (bl : Bool) (he : EyeAt w b g l bl) (hn : 4 ≤ l.length) (n : Nat) (hv : leN (l.take 4) = n) (h1 : n ≤ 1048576) (h2 : n ≤ (l.drop 4).length) :
  Calls Try.prog 92 #[.pointer (some ⟨b, 0, none⟩)] w (Seen w b g bl (.string ⟨((l.drop 4).take n).toArray⟩) (l.drop (4 + n))) := by
 have HE := Lib.hid he
 have HV := Lib.hid hv
 have H2 := Lib.hid h2
 have HD : Hid ((l.drop 4).drop n = l.drop (4 + n)) := List.drop_drop
 clear he hv h2
 go_enter Try.func92, Try.ntmps92
 go_wp2_with (first | (go_at_call 108; refine (number_yes _ b g l bl 4 (by decide) HE.out hn).mono ?_; rintro e w1 ⟨rfl, he1, hk1⟩; have HE1 := Lib.hid he1; have HK1 := Lib.hid hk1; clear he1 hk1; rw [HV.out]) | (go_at_call 110; refine (take_yes _ b g (l.drop 4) bl n HE1.out H2.out).mono ?_; rintro e w2 ⟨v, rfl, hb2, he2, hk2⟩; have hstr := hb2.str; have HE2 := Lib.hid he2; have HK2 := Lib.hid hk2; clear hb2 he2 hk2))
 go_ret
 exact ⟨rfl, by rw [← HD.out]; exact HE2.out, HK1.out.then HK2.out⟩
theorem text_no (w : World) (b g : Nat) (l : List UInt8) (bl : Bool) (he : EyeAt w b g l bl) (n : Nat) (hv : leN (l.take 4) = n) (h1 : l.length < 4 ∨ 1048576 < n ∨ (l.drop 4).length < n) :
  Calls Try.prog 92 #[.pointer (some ⟨b, 0, none⟩)] w (Blinded w b g bl) := by
 have HE := Lib.hid he
 have HV := Lib.hid hv
 clear he hv
 by_cases hn : l.length < 4
 ·go_enter Try.func92, Try.ntmps92
  go_wp2_with (go_at_call 108; refine (number_no _ b g l bl 4 HE.out hn).mono ?_; rintro e w1 ⟨rfl, rfl⟩)
  exact ⟨rfl, rfl, ⟨_, HE.out⟩, Keeps.refl _ _⟩
 ·by_cases hm : 1048576 < n
  ·clear h1
   go_enter Try.func92, Try.ntmps92
   go_wp2_with (go_at_call 108; refine (number_yes _ b g l bl 4 (by decide) HE.out (by omega)).mono ?_; rintro e w1 ⟨rfl, he1, hk1⟩; have HE1 := Lib.hid he1; have HK1 := Lib.hid hk1; clear he1 hk1; rw [HV.out])
   exact ⟨rfl, rfl, ⟨_, HE1.out⟩, HK1.out⟩
  ·have H2 : Hid ((l.drop 4).length < n) := by show _ < _; omega
   have hm' : n ≤ 1048576 := by omega
   clear h1 hm
   go_enter Try.func92, Try.ntmps92
   go_wp2_with (first | (go_at_call 108; refine (number_yes _ b g l bl 4 (by decide) HE.out (by omega)).mono ?_; rintro e w1 ⟨rfl, he1, hk1⟩; have HE1 := Lib.hid he1; have HK1 := Lib.hid hk1; clear he1 hk1; rw [HV.out]) | (go_at_call 110; refine (take_no _ b g (l.drop 4) bl n HE1.out H2.out).mono ?_; rintro e w2 ⟨rfl, rfl⟩))
   exact ⟨rfl, rfl, ⟨_, HE1.out⟩, HK1.out⟩
def cellsL (l : List (Int × Int)) : List Value := l.flatMap fun s => [.int .i64 s.1, .int .i64 s.2]
theorem cellsL_length (l : List (Int × Int)) : (cellsL l).length = l.length * 2 := by
 induction l with
 | nil => rfl
 | cons a r ih => simp [cellsL] at ih ⊢; omega
theorem cellsL_at (l : List (Int × Int)) : ∀ (i : Nat) (x y : Int), l[i]? = some (x, y) → (cellsL l)[i * 2]? = some (.int .i64 x) ∧ (cellsL l)[i * 2 + 1]? = some (.int .i64 y) := by
 induction l with
 | nil => intro i x y h; simp at h
 | cons a r ih =>
  intro i x y h
  cases i with
  | zero =>
   simp only [List.getElem?_cons_zero, Option.some.injEq] at h
   subst h
   exact ⟨rfl, rfl⟩
  | succ i =>
   obtain ⟨h1, h2⟩ := ih i x y (by simpa using h)
   have e : cellsL (a :: r) = Value.int .i64 a.1 :: Value.int .i64 a.2 :: cellsL r := rfl
   rw [e, show (i + 1) * 2 = i * 2 + 1 + 1 by omega]
   simpa using ⟨h1, h2⟩
def hasL (l : List UInt8) : Prop := 8 ≤ l.length ∧ 0 ≤ rd l ∧ 16 * (rd l).toNat ≤ l.length - 8
end S2
end Go.Proofs.Ytddbmibfebhmjaa
