/- Key, Check, Point of the program and of the reference; num, small of the law. Conditions: as each theorem states. -/
import Derived.Test.YtkgfpppbpjinaaaKt
set_option linter.unusedVariables false
set_option linter.unusedSimpArgs false
namespace Go.Proofs.Ytkgfpppbpjinaaa
open Go.RowKit

/-- Whether a text may be a key. -/
def keyB (k : ByteArray) : Bool := decide (1 ≤ k.size ∧ k.size ≤ 16)
/-- A span that may not be. -/
def badS (s : Sp) : Bool := decide (17 < s.1.size) || decide (17 < s.2.size) || !fullS s
def checkN (l : List Sp) : Int := if 64 < l.length then 6 else if l.any badS then 30 else 0
theorem any_take {l : List Sp} {k : Nat} {s : Sp} (hs : l[k]? = some s) (h : (l.take k).any badS = false) (hb : badS s = false) : (l.take (k + 1)).any badS = false := by
  rw [List.take_add_one, hs, List.any_append, h]
  simp [hb]
theorem check_bad {l : List Sp} {k : Nat} {s : Sp} (hl : ¬ 64 < l.length) (hs : l[k]? = some s) (hb : badS s = true) : checkN l = 30 := by
  unfold checkN
  rw [if_neg hl, if_pos]
  exact List.any_eq_true.2 ⟨s, List.mem_of_getElem? hs, hb⟩
theorem check_good {l : List Sp} {k : Nat} (hl : ¬ 64 < l.length) (hk : l.length ≤ k) (h : (l.take k).any badS = false) : checkN l = 0 := by
  unfold checkN
  rw [List.take_of_length_le hk] at h
  rw [if_neg hl, h]
  rfl

/-- It returns whether a list is small: true of lists of at most 30 spans alone. -/
def RetSmall (w : World) (l : List Sp) (e : Ending) (w' : World) : Prop := ∃ b : Bool, e = .returned (.bool b) ∧ (b = true → l.length ≤ 30) ∧ Below w.heap.size w w'
end Go.Proofs.Ytkgfpppbpjinaaa
