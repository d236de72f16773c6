/- Meet: whether two sets have a text in common. Conditions: lists of at most a million spans. -/
import Derived.Maps.AppendAt
import Derived.Lib.SlKeysI
import Derived.Maps.OwnSet
import Derived.Sort.MapsRangeIn
import Derived.Test.YtpdfcojcmhadnaaGreatMg03
import Derived.Test.YtpdfcojcmhadnaaGreatMg04
set_option maxRecDepth 100000
set_option maxHeartbeats 16000000
set_option linter.unusedVariables false
namespace Go.Proofs.YtpdfcojcmhadnaaGreat
open S3 S4
namespace S5
open Go.RowKit Go.Sort Go.Shelf Go.Maps
attribute [local go_sem] Oper.semAt_some
def MapI (w : World) (b k : Nat) (D : DataW Unit) : Prop := w.ownsMap Tryz.prog 3 unitElem b k D
theorem MapI.lt {w : World} {b k : Nat} {D : DataW Unit} (h : MapI w b k D) : b < w.heap.size := World.ownsMap.lt h
theorem MapI.later {B : Nat} {w wr : World} {b k : Nat} {D : DataW Unit} (h : MapI w b k D) (hw : Below B w wr) (hb : b < B) : MapI wr b k D := by
 obtain ⟨es, clock, hh, r⟩ := h
 exact ⟨es, clock, (hw.block b hb).trans hh, r⟩
end S5
end Go.Proofs.YtpdfcojcmhadnaaGreat

namespace Go.Proofs.YtpdfcojcmhadnaaGreat
namespace S3
open Go.RowKit Go.Sort Go.Shelf
def RetO (w : World) (r : List Sp) (e : Ending) (w' : World) : Prop := ∃ v, e = .returned v ∧ OwnL w' w.heap.size v r ∧ Below w.heap.size w w'
theorem meetings_any (va vb : Value) (w : World) (a b : Option Addr) (n m c d : Nat) (hva : va = .slice a n c) (hvb : vb = .slice b m d) :
  Calls Tryz.prog 83 #[va, vb] w fun e w' => e = .returned (.func (.func 97) #[] #[.pointer (some ⟨w.heap.size, 0, none⟩), .pointer (some ⟨w.heap.size + 1, 0, none⟩)]) ∧ w' = (w.alloc (.cells #[va] 32)).alloc (.cells #[vb] 32) := by
 subst hva hvb
 go_enter Tryz.func83, Tryz.ntmps83
 go_wp2
 go_ret
 exact ⟨rfl, rfl⟩
theorem two_boxes (w : World) (va vb : Value) (t u : TypeId) : Box1 ((w.alloc (.cells #[va] t)).alloc (.cells #[vb] u)) w.heap.size t va ∧ Box1 ((w.alloc (.cells #[va] t)).alloc (.cells #[vb] u)) (w.heap.size + 1) u vb := by
 refine ⟨(box1_new w t va).later ((Below.refl _ _).alloc (Nat.le_refl _) _) (by simp), ?_⟩
 have h := box1_new (w.alloc (.cells #[va] t)) u vb
 rwa [World.size_alloc] at h
theorem eg48 : ∀ args w, (callFunc 97 args).run Tryz.prog w = .ok (.enter 97 args) w := enters_of Tryz.func97 (by kernel_rfl) rfl

attribute [local go_sem] Oper.semAt_some
theorem meet_any (va vb : Value) (la lb : List Sp) (w : World) (hla : la.length ≤ 1000000) (hlb : lb.length ≤ 1000000) (ha : Sl w va la) (hb : Sl w vb lb) :
  Calls Tryz.prog 61 #[va, vb] w fun e w' => e = .returned (.bool (!(cutL la lb).isEmpty)) ∧ Below w.heap.size w w' := by
 obtain ⟨aa, ca, rfl⟩ := ha.form
 obtain ⟨ab, cb, rfl⟩ := hb.form
 have HA := Lib.hid ha
 have HB := Lib.hid hb
 clear ha hb
 have hb0 := Boxed.new w 4 (.bool false)
 have HB0 := Lib.hid hb0
 clear hb0
 have hbel0 := blAlloc (Below.refl w.heap.size w) (.cells #[.bool false] 4)
 have hbel := blAlloc (blAlloc hbel0 (.cells #[.slice aa la.length ca] 32)) (.cells #[.slice ab lb.length cb] 32)
 have htb := two_boxes (w.alloc (.cells #[.bool false] 4)) (.slice aa la.length ca) (.slice ab lb.length cb) 32 32
 have HBEL := Lib.hid hbel
 have HTB := Lib.hid htb
 clear hbel hbel0 htb
 refine (callsIn_wide (n := 9)).1 ?_
 refine callsIn_of_wp_marks Tryz.func61 rfl trivial ?_ rfl
 simp only [Tryz.ntmps61, List.size_toArray, List.length_cons, List.length_nil, Nat.reduceAdd, Nat.reduceSub, Array.replicate_succ, Array.replicate_zero, List.push_toArray, List.append_toArray, List.nil_append, List.cons_append]
 gi_wp2_with (refine ⟨trivial, ?_⟩; gi_at_call 83; refine (callsIn_wide.2 (meetings_any _ _ _ aa ab la.length lb.length ca cb rfl rfl)).mono ?_; rintro e w1 ⟨rfl, rfl⟩)
 refine wpIn_rangeFunc_ownF rfl (by omega) (gf := 97) (lb := #[.pointer (some ⟨w.heap.size + 1, 0, none⟩), .pointer (some ⟨w.heap.size + 1 + 1, 0, none⟩)]) rfl trivial eg48
  (meetings_stops _ _ _ (w.heap.size + 1) (w.heap.size + 1 + 1) _ _ la lb hla hlb (HA.out.later HBEL.out) (HB.out.later HBEL.out) (by have := HTB.out.1; rwa [World.size_alloc] at this) (by have := HTB.out.2; rwa [World.size_alloc] at this) (Below.refl _ _)) belowK_t (belowK_b (Nat.le_refl _)) (Below.refl _ _) (fun _ => rfl)
  (fun pre W => (pre = [] ∧ Boxed W w.heap.size 4 (.bool false)) ∧ Below w.heap.size w W)
  (fun c pre W => (c = .ret ∧ pre ≠ [] ∧ Boxed W w.heap.size 4 (.bool true)) ∧ Below w.heap.size w W)
  (OwnFrom.and (OwnFrom.and (ownFrom_pure _ _) (Own.from (boxed_own w.heap.size 4 (fun _ => .bool false)) _)) (ownFrom_below (Nat.le_refl _) (by simp; omega)))
  (fun c => OwnFrom.and (OwnFrom.and (ownFrom_pure _ _) (OwnFrom.and (ownFrom_pure _ _) (Own.from (boxed_own w.heap.size 4 (fun _ => .bool true)) _))) (ownFrom_below (Nat.le_refl _) (by simp; omega)))
  ⟨⟨rfl, (HB0.out.alloc _).alloc _⟩, HBEL.out⟩
  (fun s => { tmps := #[.slice aa la.length ca, .slice ab lb.length cb, undef, undef, .pointer (some ⟨w.heap.size, 0, none⟩), .slice aa la.length ca, .slice ab lb.length cb, .func (.func 97) #[] #[.pointer (some ⟨w.heap.size + 1, 0, none⟩), .pointer (some ⟨w.heap.size + 1 + 1, 0, none⟩)], .agg #[.string s.1, .string s.2]], defers := [] }) ?assign ?body ?done ?stop
 case assign =>
  intro l x W K hK
  gi_wp2
  simpa using hK
 case body =>
  rintro l pre x W ⟨⟨rfl, hv⟩, hB⟩ _
  have hvc := hv.cell
  have hvf := hv.frozen
  have hvl := hv.lt
  gi_wp2
  exact ⟨KeepsOthers.setCell _ _ _, ⟨rfl, by simp, hv.set _⟩, hB.setCell (p := ⟨w.heap.size, 0, none⟩) (Nat.le_refl _) _⟩
 case done =>
  rintro D ys W hD rfl ⟨⟨hys, hv⟩, hB⟩ hK
  have hvc := hv.cell
  have hvf := hv.frozen
  have hvl := hv.lt
  gi_wp2
  have hK' := (KeepsOthers.setCell W ⟨w.heap.size, 0, none⟩ (.bool false)).same D _ hK rfl
  refine ⟨by simp, .inl ⟨_, _, rfl, run_takeDeferred hK', ?_⟩⟩
  have hc5 := cell_kept (hv.set (.bool false)).cell (grownBy_putObj' _ D (.deferred none)) (fun r e => by cases e; exact ⟨_, hK', rfl⟩)
  refine ⟨.bool false, ?_, by rw [hys]; rfl, (hB.setCell (p := ⟨w.heap.size, 0, none⟩) (Nat.le_refl _) _).trans (belowK_b (w := w) (Nat.le_refl _) _ D _ _ (by simp at hD; omega) hK' rfl rfl)⟩
  simp [results, Tryz.results61, go_sem, hc5]
 case stop =>
  rintro D c pre W hD hpre ⟨⟨rfl, hne, hv⟩, hB⟩ hK
  gi_wp2
  refine ⟨by simp, .inl ⟨_, _, rfl, run_takeDeferred hK, ?_⟩⟩
  have hc5 := cell_kept hv.cell (grownBy_putObj' _ D (.deferred none)) (fun r e => by cases e; exact ⟨_, hK, rfl⟩)
  refine ⟨.bool true, ?_, ?_, hB.trans (belowK_b (w := w) (Nat.le_refl _) W D _ _ (by simp at hD; omega) hK rfl rfl)⟩
  ·simp [results, Tryz.results61, go_sem, hc5]
  ·obtain ⟨rest, hr⟩ := hpre
   rw [← hr]
   cases pre with
   | nil => exact absurd rfl hne
   | cons x pre => rfl
end S3
end Go.Proofs.YtpdfcojcmhadnaaGreat
