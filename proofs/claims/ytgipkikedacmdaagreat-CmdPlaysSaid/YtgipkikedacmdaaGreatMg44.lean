/- What the laws of stage 8 share: data that stay small, Eval and Apply as the laws call them, facts of checked ops. Conditions: as each theorem states. -/
import Derived.WalkSpells
import Derived.Test.YtgipkikedacmdaaGreatMg43
import Derived.Test.YtgipkikedacmdaaGreatMg08
import Derived.Test.YtgipkikedacmdaaGreatMg40
import Derived.Test.YtgipkikedacmdaaGreatMg39
set_option maxRecDepth 100000
set_option maxHeartbeats 16000000
set_option linter.unusedVariables false
namespace Go.Proofs.YtgipkikedacmdaaGreat
open S3 SN
namespace SP
open Go.ChangeShapes Go.WideShapes Go.ChangeAt Go.RowKit Go.Joins Go.Deep
def Dat (n : Nat) (d : Al Nat) : Prop := RisA d ∧ (∀ p ∈ d, p.1.size ≤ 1000) ∧ d.length ≤ n
theorem do_keys {d : Al Nat} {w : Wrt} {P : ByteArray → Prop} (hd : ∀ p ∈ d, P p.1) (hw : P w.1) : ∀ p ∈ doW d w, P p.1 := by
 intro p hp
 unfold doW at hp
 split at hp
 ·exact hd p (List.mem_filter.1 hp).1
 ·rcases putA_mem _ _ _ p hp with rfl | hp
  ·exact hw
  ·exact hd p hp
theorem apply_keys {P : ByteArray → Prop} : ∀ (l : List Wrt) {d : Al Nat}, (∀ p ∈ d, P p.1) → (∀ w ∈ l, P w.1) → ∀ p ∈ applyP d l, P p.1
 | [], _, hd, _ => hd
 | w :: l, d, hd, hl => apply_keys l (do_keys hd (hl w (by simp))) fun x hx => hl x (by simp [hx])
theorem Dat.app {n m : Nat} {d : Al Nat} {l : List Wrt} (h : Dat n d) (hk : ∀ x ∈ l, x.1.size ≤ 1000) (hl : l.length ≤ m) : Dat (n + m) (applyP d l) := by
 refine ⟨ris_apply l h.1, apply_keys (P := fun k => k.size ≤ 1000) l h.2.1 hk, ?_⟩
 have := apply_len l d
 have := h.2.2
 omega
def Okl (l : List Opr) : Prop := l.length ≤ 8 ∧ ∀ o ∈ l, okB o = true
theorem Okl.kd {l : List Opr} (h : Okl l) : ∀ o ∈ l, Kd o := fun o ho => (ok_kd (h.2 o ho)).1
theorem Okl.keys {l : List Opr} (h : Okl l) (d : Al Nat) : ∀ x ∈ evalL d l, x.1.size ≤ 1000 := fun x hx => Nat.le_trans (evalL_small l d h.2 x hx) (by decide)
theorem Okl.last {l : List Opr} (h : Okl l) (d : Al Nat) : (∀ x ∈ lastL (evalL d l), x.1.size ≤ 1000) ∧ (lastL (evalL d l)).length ≤ 16 := by
 refine ⟨fun x hx => h.keys d (x.1, x.2) (last_keys hx), ?_⟩
 have := evals_len l d
 have := h.1
 omega
theorem Dat.eval {n : Nat} {d : Al Nat} {l : List Opr} (h : Dat n d) (ho : Okl l) : Dat (n + 16) (evalD d l) := by
 rw [evalD_eq]
 refine h.app (ho.keys d) ?_
 have := evalL_len l d
 have := ho.1
 omega
theorem Dat.last {n : Nat} {d e : Al Nat} {l : List Opr} (h : Dat n d) (ho : Okl l) : Dat (n + 16) (applyP d (lastL (evalL e l))) := h.app (ho.last e).1 (ho.last e).2
section
variable {H : Type}
end
end SP
end Go.Proofs.YtgipkikedacmdaaGreat
