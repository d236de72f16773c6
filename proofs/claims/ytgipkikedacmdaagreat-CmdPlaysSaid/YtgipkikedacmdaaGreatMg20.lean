/- Rows of lists of stamps of the call's own; the program's All of Deps. Conditions: at most a thousand Deps, a million stamps in all. -/
import Derived.WalkSpells
import Derived.Test.YtgipkikedacmdaaGreatMg19
import Derived.Test.YtgipkikedacmdaaGreatMg16
import Derived.Test.YtgipkikedacmdaaGreatMg15
set_option maxRecDepth 100000
set_option maxHeartbeats 16000000
set_option linter.unusedVariables false
namespace Go.Proofs.YtgipkikedacmdaaGreat
open S1
namespace SD
open Go.RowKit
open Go.Sort (grow)
def RetK (w : World) (l : List (Int × Int)) (e : Ending) (w' : World) : Prop := ∃ a cap, e = .returned (.slice a l.length cap) ∧ SL w' a l ∧ (a = none → cap = 0) ∧ (∀ b o, a = some ⟨b, o, none⟩ → w.heap.size ≤ b) ∧ l.length ≤ cap ∧ Below w.heap.size w w'
theorem clone_any (a : Option Addr) (cap : Nat) (l : List (Int × Int)) (w : World) (hlen : l.length ≤ 1000000) (hl : SL w a l) (hn : a = none → cap = 0) :
  Calls Tryz.prog 194 #[.slice a l.length cap] w (RetK w l) := by
 obtain ⟨i0, hi, hz0, hz1, hz2⟩ := info_parts info_st
 have HI := Lib.hid hi
 have HZ0 := Lib.hid hz0
 have HZ1 := Lib.hid hz1
 have HZ2 := Lib.hid hz2
 rcases src_of hl with rfl | ⟨ad, rfl, hs⟩
 ·obtain rfl : cap = 0 := hn rfl
  obtain rfl : l = [] := by
   apply Classical.byContradiction
   intro hne
   obtain ⟨_, _, h, _⟩ := hl hne
   cases h
  clear hi hz0 hz1 hz2 hl hn hlen
  show Calls Tryz.prog 194 #[.slice none 0 0] w (RetK w [])
  have hq := fun w : World => Lib.run_eql_slice_nil (P := Tryz.prog) w 80 23 none 0 0 0 0 Tryz.underlying80
  go_enter Tryz.func194, Tryz.ntmps194
  go_wp2
  go_ret
  exact ⟨_, 0, rfl, fun h => absurd rfl h, fun _ => rfl, fun b o hb => (by cases hb), Nat.le_refl _, Below.refl _ _⟩
 ·have HS := Lib.hid (hs (w.alloc (.cells #[] 23)) ((Below.refl _ _).alloc (Nat.le_refl _) _))
  have hlc := cellsL_length l
  have HC := Lib.hid hlc
  clear hi hz0 hz1 hz2 hl hn hs hlc
  have hq := fun w : World => Lib.run_eql_slice_nil (P := Tryz.prog) w 80 23 (some ad) l.length cap 0 0 Tryz.underlying80
  go_enter Tryz.func194, Tryz.ntmps194
  go_wp2_with (at_builtin; refine wpList_append_own _ rfl _ _ 80 rfl w.heap.size 23 i0 (.agg #[.int .i64 0, .int .i64 0]) 2 16 Tryz.underlying80 HI.out HZ0.out HZ1.out HZ2.out rfl (by decide) _ 0 [] rfl (own_empty w) ad l.length cap (cellsL l) rfl HC.out HS.out (cellsL_one l) ?qc3 ?qc4 ?qc5 ?_)
  case qc3 => unfold maxLen; omega
  case qc4 => omega
  case qc5 => simp
  ·intro v' w' hown hgrow _
   have HO : Hid (OwnL w' w.heap.size v' l) := hown
   have HB : Hid (Below w.heap.size w w') := ((Below.refl _ _).alloc (Nat.le_refl _) _).grown hgrow (by simp) (fun k hk => by simp [Value.ownBlock] at hk; omega)
   clear hown hgrow
   go_wp2
   go_ret
   obtain ⟨a', cap', hv, hsl, hn', hge, hcp⟩ := HO.out.sl
   exact ⟨a', cap', (by rw [hv]; rfl), hsl, hn', hge, hcp, HB.out⟩
end SD
end Go.Proofs.YtgipkikedacmdaaGreat

namespace Go.Proofs.YtgipkikedacmdaaGreat
open S1
namespace SD
open Go.RowKit
theorem dep_new (w : World) (x y : Value) : (w.alloc (.cells #[x, y] 82)).cell? ⟨w.heap.size, 0, none⟩ = some x ∧ (w.alloc (.cells #[x, y] 82)).cell? ⟨w.heap.size, 1, none⟩ = some y := by
 have hb : (w.alloc (.cells #[x, y] 82)).heap[w.heap.size]? = some (.cells #[x, y] 82 (0, 0)) := by
  show (w.heap.push _)[w.heap.size]? = _
  simp
 exact ⟨by simp only [World.cell?, hb]; simp, by simp only [World.cell?, hb]; simp⟩

def lrV (r : LRow) : Value := .slice r.1 r.2.1.length r.2.2
def Dp.lr (s : Dp) : LRow := (s.ia, s.ids, s.ic)
def OwnR (w : World) (base : Nat) (v : Value) (ls : List LRow) : Prop := w.ownsRow base 80 1 v ls.length (ls.map lrV)
def LrAt (w : World) (r : LRow) : Prop := SL w r.1 r.2.1 ∧ (r.1 = none → r.2.2 = 0) ∧ r.2.1.length ≤ r.2.2
theorem LrAt.later {W wr : World} {r : LRow} (h : LrAt W r) (hw : Below W.heap.size W wr) : LrAt wr r := ⟨h.1.later hw, h.2⟩
theorem IdsAt.lr {w : World} {s : Dp} (h : IdsAt w s) : LrAt w s.lr := h
theorem OwnR.nil (w : World) (base : Nat) : OwnR w base (.slice none 0 0) [] := World.ownsRow_nil _ _ _ _
theorem OwnR.later {W wr : World} {base : Nat} {v : Value} {l : List LRow} (h : OwnR W base v l) (hb : Below W.heap.size W wr) : OwnR wr base v l := by
 obtain ⟨h1, h2 | ⟨g, cap, cur, hv, hg, hh, r⟩⟩ := h
 ·exact ⟨h1, .inl h2⟩
 ·exact ⟨h1, .inr ⟨g, cap, cur, hv, hg, (hb.block g (lt_of_block hh)).trans hh, r⟩⟩
theorem OwnR.kept {W wr : World} {base : Nat} {v : Value} {l : List LRow} {g : Option Nat} (h : OwnR W base v l) (hb : W.grownBy wr g) (hne : v.ownBlock ≠ g ∨ g = none) : OwnR wr base v l := by
 obtain ⟨h1, h2 | ⟨k, cap, cur, rfl, hg, hh, r⟩⟩ := h
 ·exact ⟨h1, .inl h2⟩
 ·refine ⟨h1, .inr ⟨k, cap, cur, rfl, hg, (hb.block k (lt_of_block hh) (fun e => ?_)).trans hh, r⟩⟩
  rcases hne with hne | hne
  ·exact hne (by simpa [Value.ownBlock] using e)
  ·rw [hne] at e
   cases e
theorem OwnR.block {w : World} {base : Nat} {v : Value} {l : List LRow} (h : OwnR w base v l) : ∀ k, v.ownBlock = some k → base ≤ k ∧ k < w.heap.size := by
 intro k hk
 obtain ⟨h1, ⟨rfl, _⟩ | ⟨g, cap, cur, rfl, hg, hh, _⟩⟩ := h
 ·simp [Value.ownBlock] at hk
 ·simp [Value.ownBlock] at hk
  subst hk
  exact ⟨hg, lt_of_block hh⟩
theorem OwnR.row {w : World} {base : Nat} {v : Value} {l : List LRow} (h : OwnR w base v l) (hne : l ≠ []) : ∃ g cap, v = .slice (some ⟨g, 0, none⟩) l.length cap ∧ l.length ≤ cap ∧ base ≤ g ∧ g < w.heap.size ∧ ∀ (i : Nat) r, l[i]? = some r → w.cell? ⟨g, i, none⟩ = some (lrV r) := by
 obtain ⟨h1, ⟨rfl, hl⟩ | ⟨g, cap, cur, hv, hg, hh, hn, hm, hs, hx⟩⟩ := h
 ·exact absurd (List.eq_nil_of_length_eq_zero hl) hne
 ·refine ⟨g, cap, hv, hn, hg, lt_of_block hh, fun i r hi => ?_⟩
  have hil := (List.getElem?_eq_some_iff.1 hi).1
  have c1 : (l.map lrV)[i]? = some (lrV r) := by rw [List.getElem?_map, hi]; rfl
  rw [← hx, List.getElem?_take_of_lt (by omega)] at c1
  simp only [World.cell?, hh]
  simpa using c1
end SD
end Go.Proofs.YtgipkikedacmdaaGreat
