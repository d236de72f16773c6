/- Key, Check, Point of the program and of the reference; num, small of the law. Conditions: as each theorem states. -/
import Derived.Test.YtjlkgbejldcklaaGreatMg07
import Derived.Test.YtjlkgbejldcklaaGreatMg09
namespace Go.Proofs.YtjlkgbejldcklaaGreat
namespace S3
open Go.RowKit
theorem refunion_any (va : Value) (a : List Sp) (w : World) (hla : a.length ≤ 300000) (ha : Sl w va a) : Calls Tryz.prog 52 #[va] w (RetO w (uniL a)) := by
  obtain ⟨aa, ca, rfl⟩ := ha.form
  have HA := Lib.hid ha
  clear ha
  go_enter Tryz.func52, Tryz.ntmps52
  go_wp2_with fail
  refine (set0_any _ (.slice none 0 0) a [] w hla (by simp) HA.out ⟨none, 0, rfl, fun _ => rfl, fun h => absurd rfl h⟩).mono ?_
  rintro e w1 ⟨v, rfl, h1, h2⟩
  have H1 := Lib.hid h1
  have H2 := Lib.hid h2
  clear h1 h2
  go_wp2
  go_ret
  exact ⟨_, rfl, H1.out, H2.out⟩
theorem uniL_uni (l : List Sp) : Uni l (uniL l) := by
  have h : ∀ l : List Sp, ∃ d : List Sp, d.Perm l ∧ d.Pairwise fun s t => ltT t.1 s.1 = false := by
    intro l
    induction l with
    | nil => exact ⟨[], List.Perm.nil, List.Pairwise.nil⟩
    | cons s l ih =>
      obtain ⟨d, hp, hs⟩ := ih
      have ins : ∀ d : List Sp, (d.Pairwise fun s t => ltT t.1 s.1 = false) → ∃ e : List Sp, e.Perm (s :: d) ∧ (e.Pairwise fun s t => ltT t.1 s.1 = false) := by
        intro d
        induction d with
        | nil => intro _; exact ⟨[s], List.Perm.refl _, List.pairwise_singleton _ _⟩
        | cons t d ih2 =>
          intro h
          obtain ⟨h1, h2⟩ := List.pairwise_cons.1 h
          cases hc : ltT t.1 s.1
          · exact ⟨s :: t :: d, List.Perm.refl _, List.pairwise_cons.2 ⟨fun u hu => by
              rcases List.mem_cons.1 hu with rfl | hu
              · exact hc
              · exact ge_trans hc (h1 u hu), h⟩⟩
          · obtain ⟨e, hp2, hs2⟩ := ih2 h2
            exact ⟨t :: e, (hp2.cons t).trans (List.Perm.swap s t d), List.pairwise_cons.2 ⟨fun u hu => by
              rcases List.mem_cons.1 (hp2.mem_iff.1 hu) with rfl | hu
              · exact lt_asymm hc
              · exact h1 u hu, hs2⟩⟩
      obtain ⟨e, hp2, hs2⟩ := ins d hs
      exact ⟨e, hp2.trans (hp.cons s), hs2⟩
  obtain ⟨d, hp, hs⟩ := h (l.filter fullS)
  have hu := uni_of hp hs
  rw [← hu.is]
  exact hu
theorem uniL_len (l : List Sp) : (uniL l).length ≤ l.length := (uniL_uni l).len
end S3
end Go.Proofs.YtjlkgbejldcklaaGreat

set_option linter.unusedVariables false
set_option linter.unusedSimpArgs false
namespace Go.Proofs.YtjlkgbejldcklaaGreat
namespace S3
open Go.RowKit
def keyB (k : ByteArray) : Bool := decide (1 ≤ k.size ∧ k.size ≤ 16)
theorem key_any (k : ByteArray) (w : World) : Calls Tryz.prog 207 #[.string k] w fun e w' => e = .returned (.int .i64 (if keyB k then 0 else 30)) ∧ w = w' := by
  by_cases h1 : k.size < 1
  · have hv : keyB k = false := by simp [keyB]; omega
    have h1I : (k.size : Int) < 1 := by omega
    have hd : decide ((k.size : Int) < 1) = true := by simpa using h1I
    rw [hv]
    go_enter Tryz.func207, Tryz.ntmps207
    go_wp2
    go_ret
    exact ⟨rfl, rfl⟩
  · by_cases h2 : 16 < k.size
    · have hv : keyB k = false := by simp [keyB]; omega
      have h1I : ¬ (k.size : Int) < 1 := by omega
      have h2I : (16 : Int) < (k.size : Int) := by omega
      have hd : decide ((k.size : Int) < 1) = false := by simpa using h1I
      have hd2 : decide ((16 : Int) < (k.size : Int)) = true := by simpa using h2I
      rw [hv]
      go_enter Tryz.func207, Tryz.ntmps207
      go_wp2
      go_ret
      exact ⟨rfl, rfl⟩
    · have hv : keyB k = true := by simp [keyB]; omega
      have h1I : ¬ (k.size : Int) < 1 := by omega
      have h2I : ¬ (16 : Int) < (k.size : Int) := by omega
      have hd : decide ((k.size : Int) < 1) = false := by simpa using h1I
      have hd2 : decide ((16 : Int) < (k.size : Int)) = false := by simpa using h2I
      rw [hv]
      go_enter Tryz.func207, Tryz.ntmps207
      go_wp2
      go_ret
      exact ⟨rfl, rfl⟩
theorem refkey_any (k : ByteArray) (w : World) : Calls Tryz.prog 135 #[.string k] w fun e w' => e = .returned (.bool (keyB k)) ∧ w = w' := by
  by_cases h1 : 1 ≤ k.size
  · by_cases h2 : k.size ≤ 16
    · have hv : keyB k = true := by simp [keyB]; omega
      have h1I : (1 : Int) ≤ (k.size : Int) := by omega
      have h2I : (k.size : Int) ≤ 16 := by omega
      have hd : decide ((1 : Int) ≤ (k.size : Int)) = true := by simpa using h1I
      have hd2 : decide ((k.size : Int) ≤ 16) = true := by simpa using h2I
      rw [hv]
      go_enter Tryz.func135, Tryz.ntmps135
      go_wp2
      go_ret
      exact ⟨rfl, rfl⟩
    · have hv : keyB k = false := by simp [keyB]; omega
      have h1I : (1 : Int) ≤ (k.size : Int) := by omega
      have h2I : ¬ (k.size : Int) ≤ 16 := by omega
      have hd : decide ((1 : Int) ≤ (k.size : Int)) = true := by simpa using h1I
      have hd2 : decide ((k.size : Int) ≤ 16) = false := by simpa using h2I
      rw [hv]
      go_enter Tryz.func135, Tryz.ntmps135
      go_wp2
      go_ret
      exact ⟨rfl, rfl⟩
  · have hv : keyB k = false := by simp [keyB]; omega
    have h1I : ¬ (1 : Int) ≤ (k.size : Int) := by omega
    have hd : decide ((1 : Int) ≤ (k.size : Int)) = false := by simpa using h1I
    rw [hv]
    go_enter Tryz.func135, Tryz.ntmps135
    go_wp2
    go_ret
    exact ⟨rfl, rfl⟩
def badS (s : Sp) : Bool := decide (17 < s.1.size) || decide (17 < s.2.size) || !fullS s
def checkN (l : List Sp) : Int := if 64 < l.length then 6 else if l.any badS then 30 else 0
theorem check_bad {l : List Sp} {k : Nat} {s : Sp} (hl : ¬ 64 < l.length) (hs : l[k]? = some s) (hb : badS s = true) : checkN l = 30 := by
  unfold checkN
  rw [if_neg hl, if_pos]
  exact List.any_eq_true.2 ⟨s, List.mem_of_getElem? hs, hb⟩
theorem check_good {l : List Sp} {k : Nat} (hl : ¬ 64 < l.length) (hk : l.length ≤ k) (h : (l.take k).any badS = false) : checkN l = 0 := by
  unfold checkN
  rw [List.take_of_length_le hk] at h
  rw [if_neg hl, h]
  rfl
end S3
end Go.Proofs.YtjlkgbejldcklaaGreat
