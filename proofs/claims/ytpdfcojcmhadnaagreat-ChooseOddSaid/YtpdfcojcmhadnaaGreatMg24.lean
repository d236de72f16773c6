/- The contracts of the pen's methods Text, Bool, Stamp, Stamps, and of all on a nil pen. Conditions: at most 2^40 bytes are laid; texts of at most MaxFlat bytes. -/
import Derived.WalkSpells
import Derived.WalkLawsBesides
import Derived.Lib.SliceRun
import Derived.Test.YtpdfcojcmhadnaaGreatMg23
set_option maxRecDepth 100000
set_option maxHeartbeats 16000000
namespace Go.Proofs.YtpdfcojcmhadnaaGreat
namespace S2
open Go.RowKit
def IL (w : World) (g : Nat) (a : Option Addr) (l : List Int) : Prop := l ≠ [] → ∃ o, a = some ⟨g, o, none⟩ ∧ ∀ j x, l[j]? = some x → w.cell? ⟨g, o + j, none⟩ = some (.int .i64 x)
theorem IL.keep {S : Nat → Prop} {w w' : World} {g : Nat} {a : Option Addr} {l : List Int} (h : IL w g a l) (k : Keeps S w w') (hg : ¬ S g) : IL w' g a l :=
 fun hne => let ⟨o, ha, hc⟩ := h hne; ⟨o, ha, fun j x hx => k.cell hg (hc j x hx)⟩
def TL (w : World) (g : Nat) (a : Option Addr) (l : List ByteArray) : Prop := l ≠ [] → ∃ o, a = some ⟨g, o, none⟩ ∧ ∀ j x, l[j]? = some x → w.cell? ⟨g, o + j, none⟩ = some (.string x)
theorem TL.keep {S : Nat → Prop} {w w' : World} {g : Nat} {a : Option Addr} {l : List ByteArray} (h : TL w g a l) (k : Keeps S w w') (hg : ¬ S g) : TL w' g a l :=
 fun hne => let ⟨o, ha, hc⟩ := h hne; ⟨o, ha, fun j x hx => k.cell hg (hc j x hx)⟩
def i8 (x : Int) : List UInt8 := low (IntKind.u64.wrap x).toNat 8
theorem get_lt {α : Type} {l : List α} {j : Nat} (h : j < l.length) : ∃ x, l[j]? = some x := ⟨_, List.getElem?_eq_getElem h⟩
theorem not_nil {α : Type} {l : List α} {j : Nat} (h : j < l.length) : l ≠ [] := by rintro rfl; simp at h

theorem ba_len (s : ByteArray) : s.data.toList.length = s.size := by rw [Array.length_toList]; rfl
def SL (w : World) (g : Nat) (a : Option Addr) (l : List (Int × Int)) : Prop :=
 l ≠ [] → ∃ o, a = some ⟨g, o, none⟩ ∧ ∀ j x y, l[j]? = some (x, y) → w.cell? ⟨g, o + j * 2, none⟩ = some (.int .i64 x) ∧ w.cell? ⟨g, o + j * 2 + 1, none⟩ = some (.int .i64 y)
theorem SL.keep {S : Nat → Prop} {w w' : World} {g : Nat} {a : Option Addr} {l : List (Int × Int)} (h : SL w g a l) (k : Keeps S w w') (hg : ¬ S g) : SL w' g a l :=
 fun hne => let ⟨o, ha, hc⟩ := h hne; ⟨o, ha, fun j x y hx => ⟨k.cell hg (hc j x y hx).1, k.cell hg (hc j x y hx).2⟩⟩
theorem one_new (w : World) (x : Int) (b : Nat) (hb : b = w.heap.size) (W : World) (hW : W.heap = (w.alloc (.cells #[.int .i64 x] 2)).heap) : IL W b (some ⟨b, 0, none⟩) [x] := by
 subst hb
 have h : W.heap[w.heap.size]? = some (.cells #[.int .i64 x] 2 (0, 0)) := by rw [hW]; exact heap_alloc_new w _
 intro _
 refine ⟨0, rfl, fun j z hz => ?_⟩
 rw [cell_of_row W _ _ _ _ _ h]
 match j, hz with
 | 0, hz => simp at hz; simp [hz]
theorem PenStep.before {b : Nat} {r r' : Option Nat} {w x y : World} (h : PenStep b r r' x y) (k : Keeps (fun _ => False) w x) : PenStep b r r' w y :=
 ⟨(k.mono fun _ _ h => h.elim).then h.keeps, h.row.imp id fun e => e.later k⟩
theorem PenAt.before {w x : World} {b : Nat} {r : Option Nat} {l : List UInt8} (h : PenAt w b r l) (k : Keeps (fun _ => False) w x) : PenAt x b r l := h.keep k (fun h => h) fun _ _ h => h
theorem PenAt.apart {w : World} {b g : Nat} {r : Option Nat} {l : List UInt8} (h : PenAt w b r l) (hg : w.heap.size ≤ g) : ¬ PenS b r g := by
 rintro (rfl | e)
 ·exact absurd h.lt (by omega)
 ·obtain ⟨v, _, _, hr, _⟩ := h
  exact absurd (hr.lt e) (by omega)
end S2
end Go.Proofs.YtpdfcojcmhadnaaGreat
