/- The contract of the reference's Parse of ops: it answers what the program's does. Conditions: at most 20000 bytes. -/
import Derived.WalkSpells
import Derived.Deep.CutBlock
import Derived.Deep.DeepCutAuto
import Derived.Deep.RegionHeld3
import Derived.Test.YtgipkikedacmdaaGreatMg45
import Derived.Test.YtgipkikedacmdaaGreatMg36
import Derived.Test.YtgipkikedacmdaaGreatMg20
import Derived.Test.YtgipkikedacmdaaGreatMg32
import Derived.Test.YtgipkikedacmdaaGreatMg44
set_option maxRecDepth 100000
set_option maxHeartbeats 16000000
set_option linter.unusedVariables false
set_option linter.unusedSimpArgs false
namespace Go.Proofs.YtgipkikedacmdaaGreat
open S3 SN
namespace SP
open Go.ChangeShapes Go.WideShapes Go.ChangeAt Go.RowKit Go.Joins Go.Deep
theorem kd_wf {o : Opr} (h : okB o = true) : (Lit.int .i64 o.1).wf = true := by
 have hk : o.1 = 1 ∨ o.1 = 2 ∨ o.1 = 3 ∨ o.1 = 4 ∨ o.1 = 5 ∨ o.1 = 6 := by
  unfold okB suitB at h
  simp only [Bool.and_eq_true] at h
  obtain ⟨_, h⟩ := h
  split at h
  ·omega
  split at h
  ·omega
  split at h
  ·omega
  split at h
  ·omega
  ·cases h
 rcases hk with e | e | e | e | e | e <;> rw [e] <;> decide
theorem noT_size {s : ByteArray} (h : noT s = true) : s.size ≤ 1000 := by
 have e : s.toList = [] := by simpa [noT] using h
 have := congrArg List.length e
 have h2 : s.size = s.toList.length := by rw [toList_data, S2.ba_len]
 rw [h2, e]
 decide
theorem ok_sizes {o : Opr} (h : okB o = true) : o.2.1.size ≤ 1000 ∧ o.2.2.1.size ≤ 1000 := by
 have kb : ∀ k : ByteArray, keyB k = true → k.size ≤ 1000 := fun k hk => by have := of_decide_eq_true hk; omega
 unfold okB suitB at h
 simp only [Bool.and_eq_true] at h
 obtain ⟨⟨h1, _⟩, h⟩ := h
 refine ⟨kb _ h1, ?_⟩
 split at h
 ·simp only [Bool.and_eq_true] at h
  exact noT_size h.1
 split at h
 ·simp only [Bool.and_eq_true, Bool.or_eq_true] at h
  rcases h.1 with h | h
  ·exact noT_size h
  ·exact kb _ h.1
 split at h
 ·exact noT_size h
 split at h
 ·simp only [Bool.and_eq_true] at h
  exact kb _ h.1
 ·cases h
theorem good8 {l : List Opr} (h : checkP l = 0) (hn : ∀ o ∈ l, o.2.2.2 < 18446744073709551616) : (cO.list.upto 8).good l := by
 obtain ⟨h8, _, hok⟩ := check_kd h
 refine ⟨⟨by omega, fun o ho => ?_⟩, h8⟩
 have h1 := ok_sizes (hok o ho)
 exact ⟨kd_wf (hok o ho), Nat.le_trans h1.1 (by decide), Nat.le_trans h1.2 (by decide), hn o ho⟩
theorem cOs_ok : cO.list.Ok := Cod.list_ok cO_ok cO_pos
end SP
end Go.Proofs.YtgipkikedacmdaaGreat
