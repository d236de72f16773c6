/- The contracts of the pen's methods Text, Bool, Stamp, Stamps, and of all on a nil pen. Conditions: at most 2^40 bytes are laid; texts of at most MaxFlat bytes. -/
import Derived.WalkSpells
import Derived.WalkLawsBesides
import Derived.Lib.SliceRun
import Derived.Test.YtebcgbahpgmliaaMg02
set_option maxRecDepth 100000
set_option maxHeartbeats 16000000
namespace Go.Proofs.Ytebcgbahpgmliaa
namespace S2
open Go.RowKit
def Made (w : World) (l : List UInt8) (e : Ending) (w' : World) : Prop := ∃ v g, e = .returned v ∧ Row w' g v l ∧ New w g ∧ Below w.heap.size w w'
theorem row_empty (w : World) : Row (w.alloc (.cells #[] 5)) (some w.heap.size) (.slice (some ⟨w.heap.size, 0, none⟩) 0 0) [] :=
 ⟨World.ownsRow_made w #[] 0 (Nat.zero_le _) (Nat.zero_le _) rfl, rfl⟩
theorem clone_any (w : World) (g : Nat) (v : Value) (l : List UInt8) (h : Bs w g v l) (hlen : l.length ≤ 1099511627776) : Calls Try.prog 45 #[v] w (Made w l) := by
 rcases h with ⟨rfl, rfl⟩ | ⟨o, cap, rfl, h1, h2, h3⟩
 ·have hq := fun w : World => Lib.run_eql_slice_nil (P := Try.prog) w 39 5 none 0 0 0 0 Try.underlying39
  go_enter Try.func45, Try.ntmps45
  go_wp2
  go_ret
  exact ⟨_, none, rfl, Row.nil _, New.none _, Below.refl _ _⟩
 ·have HB : Hid (Bs w g (.slice (some ⟨g, o, none⟩) l.length cap) l) := .inr ⟨o, cap, rfl, h1, h2, h3⟩
  clear h1 h2 h3
  have hq := fun w : World => Lib.run_eql_slice_nil (P := Try.prog) w 39 5 (some ⟨g, o, none⟩) l.length cap 0 0 Try.underlying39
  go_enter Try.func45, Try.ntmps45
  go_wp2_with (at_builtin; refine wpList_app rfl (.tmp 5) (.tmp 6) 39 rfl rfl rfl (row_empty _) (HB.out.keep (S := fun _ => False) (Keeps.alloc _ _ _) (fun _ h => h)).src (by simpa using hlen) ?_; intro v' w' g' h1 h2 h3; have H1 := Lib.hid h1; have H2 := Lib.hid h2; have H3 := Lib.hid h3; clear h1 h2 h3)
  go_ret
  refine ⟨_, g', rfl, by simpa using H1.out, ?_, ?_⟩
  ·rcases H3.out with e | e
   ·rw [e]; intro k hk; cases hk; exact Nat.le_refl _
   ·exact e.later (Keeps.alloc (fun _ => False) _ _)
  ·exact ((Below.refl _ _).alloc (Nat.le_refl _) _).grown H2.out (by simp) (fun k hk => by cases hk; exact Nat.le_refl _)
def IL (w : World) (g : Nat) (a : Option Addr) (l : List Int) : Prop := l ≠ [] → ∃ o, a = some ⟨g, o, none⟩ ∧ ∀ j x, l[j]? = some x → w.cell? ⟨g, o + j, none⟩ = some (.int .i64 x)
theorem IL.keep {S : Nat → Prop} {w w' : World} {g : Nat} {a : Option Addr} {l : List Int} (h : IL w g a l) (k : Keeps S w w') (hg : ¬ S g) : IL w' g a l :=
 fun hne => let ⟨o, ha, hc⟩ := h hne; ⟨o, ha, fun j x hx => k.cell hg (hc j x hx)⟩
def TL (w : World) (g : Nat) (a : Option Addr) (l : List ByteArray) : Prop := l ≠ [] → ∃ o, a = some ⟨g, o, none⟩ ∧ ∀ j x, l[j]? = some x → w.cell? ⟨g, o + j, none⟩ = some (.string x)
theorem TL.keep {S : Nat → Prop} {w w' : World} {g : Nat} {a : Option Addr} {l : List ByteArray} (h : TL w g a l) (k : Keeps S w w') (hg : ¬ S g) : TL w' g a l :=
 fun hne => let ⟨o, ha, hc⟩ := h hne; ⟨o, ha, fun j x hx => k.cell hg (hc j x hx)⟩

def tx (s : ByteArray) : List UInt8 := low s.size 4 ++ s.data.toList
def tb (t : Bool) : List UInt8 := low (if t then 1 else 0) 1
def SL (w : World) (g : Nat) (a : Option Addr) (l : List (Int × Int)) : Prop :=
 l ≠ [] → ∃ o, a = some ⟨g, o, none⟩ ∧ ∀ j x y, l[j]? = some (x, y) → w.cell? ⟨g, o + j * 2, none⟩ = some (.int .i64 x) ∧ w.cell? ⟨g, o + j * 2 + 1, none⟩ = some (.int .i64 y)
theorem SL.keep {S : Nat → Prop} {w w' : World} {g : Nat} {a : Option Addr} {l : List (Int × Int)} (h : SL w g a l) (k : Keeps S w w') (hg : ¬ S g) : SL w' g a l :=
 fun hne => let ⟨o, ha, hc⟩ := h hne; ⟨o, ha, fun j x y hx => ⟨k.cell hg (hc j x y hx).1, k.cell hg (hc j x y hx).2⟩⟩
theorem PenStep.before {b : Nat} {r r' : Option Nat} {w x y : World} (h : PenStep b r r' x y) (k : Keeps (fun _ => False) w x) : PenStep b r r' w y :=
 ⟨(k.mono fun _ _ h => h.elim).then h.keeps, h.row.imp id fun e => e.later k⟩
theorem PenAt.before {w x : World} {b : Nat} {r : Option Nat} {l : List UInt8} (h : PenAt w b r l) (k : Keeps (fun _ => False) w x) : PenAt x b r l := h.keep k (fun h => h) fun _ _ h => h
theorem PenStep.free {b g : Nat} {r r' : Option Nat} {w w' : World} (h : PenStep b r r' w w') (hg : ¬ PenS b r g) (hl : g < w.heap.size) : ¬ PenS b r' g := by
 rintro (e | e)
 ·exact hg (.inl e)
 ·rcases h.row with h | h
  ·exact hg (.inr (by rw [← h]; exact e))
  ·exact absurd (h g e) (by omega)
theorem PenAt.apart {w : World} {b g : Nat} {r : Option Nat} {l : List UInt8} (h : PenAt w b r l) (hg : w.heap.size ≤ g) : ¬ PenS b r g := by
 rintro (rfl | e)
 ·exact absurd h.lt (by omega)
 ·obtain ⟨v, _, _, hr, _⟩ := h
  exact absurd (hr.lt e) (by omega)
end S2
end Go.Proofs.Ytebcgbahpgmliaa
