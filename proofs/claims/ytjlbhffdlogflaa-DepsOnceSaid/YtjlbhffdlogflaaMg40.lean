/- DepsOnce: whatever the bytes, the place and the byte, the law returns true: bytes that are dependencies are the bytes of them; cut off, or longer, they are none. Conditions: none. -/
import Derived.Deep.RegionHeld3
import Derived.Deep.CutRange
import Derived.Deep.CutBlock
import Derived.WalkSpells
import Derived.Lib.SmallJoins
import Derived.Deep.Slices
import Derived.Deep.Fields
import Derived.Deep.RegionWith
import Derived.Test.YtjlbhffdlogflaaMg39
import Derived.Test.YtjlbhffdlogflaaMg35
import Derived.Test.YtjlbhffdlogflaaMg38
import Derived.Test.YtjlbhffdlogflaaMg00
import Derived.Test.YtjlbhffdlogflaaMg01
import Derived.Test.YtjlbhffdlogflaaMg17
/- live of the laws of dependencies. Conditions: none. -/
set_option linter.unusedVariables false
set_option linter.unusedSimpArgs false
namespace Go.Proofs.Ytjlbhffdlogflaa
open S1 SP
namespace SD
open Go.RowKit

set_option maxRecDepth 100000 in
set_option maxHeartbeats 8000000 in
theorem dlive_any (w : World) : Calls Try.prog 4 #[] w fun e w' => e = .returned (.bool true) ∧ Below w.heap.size w w' := by
  go_enter Try.func4, Try.ntmps4
  go_upto_region 2 with fail
  have hBw : Below w.heap.size w ((w.alloc (.cells #[.int .i64 1, .int .i64 1] 33)).alloc (.cells #[.int .i64 2, .int .i64 1] 33)) := blAlloc (blAlloc (Below.refl _ _) _) _
  have hOx : Own2 ((w.alloc (.cells #[.int .i64 1, .int .i64 1] 33)).alloc (.cells #[.int .i64 2, .int .i64 1] 33)) w.heap.size 1 1 := own2_new0 _ _ _ _
  have hOy : Own2 ((w.alloc (.cells #[.int .i64 1, .int .i64 1] 33)).alloc (.cells #[.int .i64 2, .int .i64 1] 33)) (w.heap.size + 1) 2 1 := own2_new1 _ _ _ _
  generalize (w.alloc (.cells #[.int .i64 1, .int .i64 1] 33)).alloc (.cells #[.int .i64 2, .int .i64 1] 33) = W at *
  have HBW := Lib.hid hBw
  have HOX := Lib.hid hOx
  have HOY := Lib.hid hOy
  have x0 := hOx.c0
  have x1 := hOx.c1
  have y0 := hOy.c0
  have y1 := hOy.c1
  have xl := hOx.lt
  have yl := hOy.lt
  clear hBw hOx hOy
  have K5 := Lib.hid (fun (X : World) (h : Below W.heap.size W X) => (⟨cell_in h xl x0, cell_in h xl x1, cell_in h yl y0, cell_in h yl y1⟩ : X.cell? ⟨w.heap.size, 0, none⟩ = some (.int .i64 1) ∧ X.cell? ⟨w.heap.size, 1, none⟩ = some (.int .i64 1) ∧ X.cell? ⟨w.heap.size + 1, 0, none⟩ = some (.int .i64 2) ∧ X.cell? ⟨w.heap.size + 1, 1, none⟩ = some (.int .i64 1)))
  go_cut [3] from 8 to 18 (fun s3 wx => ∃ (a : Option Addr) (c : Nat) (l : List Dp), s3 = .slice a l.length c ∧ toD l = liveD ∧ Dl wx a l ∧ (a = none → c = 0) ∧ l.length ≤ c ∧ Below W.heap.size W wx)
  case first =>
    go_region_held3 (fun X => X.cell? ⟨w.heap.size, 0, none⟩ = some (.int .i64 1) ∧ X.cell? ⟨w.heap.size, 1, none⟩ = some (.int .i64 1) ∧ X.cell? ⟨w.heap.size + 1, 0, none⟩ = some (.int .i64 2) ∧ X.cell? ⟨w.heap.size + 1, 1, none⟩ = some (.int .i64 1))
      (exact K5.out _ (by repeat (first | with_reducible exact HB18.out | with_reducible exact HB16.out | with_reducible exact HB13.out | with_reducible exact HB10.out | with_reducible exact Below.refl _ _ | with_reducible refine blAlloc ?_ _ | with_reducible refine Below.drew ?_)))
      (first
        | (have _q := HX13.out; clear _q; (try go_simp); go_at_call 10; (refine (make_any 1 _ _ [(1, 1)] _ (by decide) (by first | ((refine sl_dir ?_ ?_ ?_ <;> first | omega | (go_simp; done) | (simp; done) | (simp; omega))) | (refine SL.later (SL.later ?_ HX10.out) ?_; rotate_left; (repeat (first | with_reducible exact Below.refl _ _ | with_reducible refine blAlloc ?_ _ | with_reducible refine Below.drew ?_)); (refine sl_dir ?_ ?_ ?_ <;> first | omega | (go_simp; done) | (simp; done) | (simp; omega))) | (refine SL.later (SL.later ?_ HX13.out) ?_; rotate_left; (repeat (first | with_reducible exact Below.refl _ _ | with_reducible refine blAlloc ?_ _ | with_reducible refine Below.drew ?_)); (refine sl_dir ?_ ?_ ?_ <;> first | omega | (go_simp; done) | (simp; done) | (simp; omega))) | (refine SL.later (SL.later (SL.later (SL.later ?_ HX10.out) ?_) HX13.out) ?_; rotate_left; (repeat (first | with_reducible exact Below.refl _ _ | with_reducible refine blAlloc ?_ _ | with_reducible refine Below.drew ?_)); (repeat (first | with_reducible exact Below.refl _ _ | with_reducible refine blAlloc ?_ _ | with_reducible refine Below.drew ?_)); (refine sl_dir ?_ ?_ ?_ <;> first | omega | (go_simp; done) | (simp; done) | (simp; omega)))) (fun h => by cases h)).mono ?_; rintro e w16 ⟨a16, c16, l16, rfl, h1, h2, h3, h4, h5⟩; have HT16 := Lib.hid h1; have HD16 := Lib.hid h2; have HX16 := Lib.hid h5; have HB16 : Hid (Below W.heap.size W w16) := blThen (by repeat (first | with_reducible exact HB13.out | with_reducible exact HB10.out | with_reducible exact Below.refl _ _ | with_reducible refine blAlloc ?_ _ | with_reducible refine Below.drew ?_)) h5; have HD10c := Lib.hid (Dl.later (Dl.later HD10b.out (by repeat (first | with_reducible exact Below.refl _ _ | with_reducible refine blAlloc ?_ _ | with_reducible refine Below.drew ?_))) HX16.out); have HD13c := Lib.hid (Dl.later (Dl.later HD13.out (by repeat (first | with_reducible exact Below.refl _ _ | with_reducible refine blAlloc ?_ _ | with_reducible refine Below.drew ?_))) HX16.out); clear h1 h2 h3 h4 h5))
        | (have _q := HX10.out; clear _q; (try go_simp); go_at_call 10; (refine (make_any 0 _ _ [(2, 1)] _ (by decide) (by first | ((refine sl_dir ?_ ?_ ?_ <;> first | omega | (go_simp; done) | (simp; done) | (simp; omega))) | (refine SL.later (SL.later ?_ HX10.out) ?_; rotate_left; (repeat (first | with_reducible exact Below.refl _ _ | with_reducible refine blAlloc ?_ _ | with_reducible refine Below.drew ?_)); (refine sl_dir ?_ ?_ ?_ <;> first | omega | (go_simp; done) | (simp; done) | (simp; omega)))) (fun h => by cases h)).mono ?_; rintro e w13 ⟨a13, c13, l13, rfl, h1, h2, h3, h4, h5⟩; have HT13 := Lib.hid h1; have HD13 := Lib.hid h2; have HX13 := Lib.hid h5; have HB13 : Hid (Below W.heap.size W w13) := blThen (by repeat (first | with_reducible exact HB10.out | with_reducible exact Below.refl _ _ | with_reducible refine blAlloc ?_ _ | with_reducible refine Below.drew ?_)) h5; have HD10b := Lib.hid (Dl.later (Dl.later HD10.out (by repeat (first | with_reducible exact Below.refl _ _ | with_reducible refine blAlloc ?_ _ | with_reducible refine Below.drew ?_))) HX13.out); clear h1 h2 h3 h4 h5))
        | ((try go_simp); go_at_call 10; go_must (refine (make_any 0 _ _ [(1, 1)] _ (by decide) (by first | ((refine sl_dir ?_ ?_ ?_ <;> first | omega | (go_simp; done) | (simp; done) | (simp; omega)))) (fun h => by cases h)).mono ?_; rintro e w10 ⟨a10, c10, l10, rfl, h1, h2, h3, h4, h5⟩; have HT10 := Lib.hid h1; have HD10 := Lib.hid h2; have HX10 := Lib.hid h5; have HB10 : Hid (Below W.heap.size W w10) := blThen (by repeat (first | with_reducible exact Below.refl _ _ | with_reducible refine blAlloc ?_ _ | with_reducible refine Below.drew ?_)) h5; clear h1 h2 h3 h4 h5))
        | ((try go_simp); go_at_call 9; refine (pmergeD_any _ _ [(a10, l10, c10), (a13, l13, c13), (a16, l16, c16)] [[(0, sortL [(1, 1)])], [(0, sortL [(2, 1)])], [(1, sortL [(1, 1)])]] (-1) _ (by show [toD l10, toD l13, toD l16] = _; rw [HT10.out, HT13.out, HT16.out]) (by decide) (by simp) (by decide) (by decide) (by decide) (dls_new w16 [(a10, l10, c10), (a13, l13, c13), (a16, l16, c16)] _ rfl (by intro r hr; simp only [List.mem_cons, List.not_mem_nil, or_false] at hr; rcases hr with rfl | rfl | rfl; exact HD10c.out; exact HD13c.out; exact HD16.out))).mono ?_; rintro e w18 ⟨a18, c18, l18, rfl, h1, h2, h3, h4, h5⟩; rw [live_merge] at h1; have HT18 := Lib.hid h1; have HD18 := Lib.hid h2; have HZ18 := Lib.hid h3; have HC18 := Lib.hid h4; have HB18 : Hid (Below W.heap.size W w18) := blThen (blAlloc HB16.out _) h5; clear h1 h2 h3 h4 h5))
    all_goals
      go_wp2_with fail
      go_meet
      exact ⟨a18, c18, l18, rfl, HT18.out, HD18.out, HZ18.out, HC18.out, HB18.out⟩
  case rest =>
    obtain ⟨a, c, l, rfl, hT, hD, hz, hc, hb⟩ := hcut
    have HT := Lib.hid hT
    have HD := Lib.hid hD
    have HBC := Lib.hid hb
    have HF := Lib.hid (live_few hT)
    clear hT hD hb hz hc
    go_wp2_with (first
      | (go_at_call 7; go_must (refine (put_any a c l _ HF.out.1 HF.out.2.1 HD.out).mono ?_; rintro e w21 ⟨v, g, rfl, h1, h2, h3⟩; rw [HT.out] at h1; obtain ⟨a1, n1, c1, rfl⟩ := h1.form; have HR := Lib.hid h1.bs; have HB21 := Lib.hid (blThen HBC.out h3); have HD21 := Lib.hid (HD.out.later h3); clear h1 h2 h3))
      | (go_at_call 5; go_must (refine (parse_any _ a1 n1 c1 (layD liveD) _ HR.out.bw live_laylen).mono ?_; rintro e w22 ⟨a2, c2, l2, rfl, h1, h2, h3, h4, h5⟩; rw [live_parse] at h1 ⊢; have HT2 : Hid (toD l2 = liveD) := h1; have HD2 := Lib.hid h2; have HDX := Lib.hid (HD21.out.later h5); have HB22 := Lib.hid (blThen HB21.out h5); have HF2 := Lib.hid (live_few HT2.out); clear h1 h2 h3 h4 h5)))
    have HXX := K5.out _ HB22.out
    obtain ⟨z0, z1, z2, z3⟩ := HXX
    have xl2 := Nat.lt_of_lt_of_le xl HB22.out.size
    have yl2 := Nat.lt_of_lt_of_le yl HB22.out.size
    have HQ2 : Hid (decide (toD l2 = toD l) = true) := by show _ = _; rw [HT.out, HT2.out]; rfl
    have HQ3 : Hid (decide (toD l = toD l2) = true) := by show _ = _; rw [HT.out, HT2.out]; rfl
    have HQA : Hid (allD (toD l) = [(1, 1), (2, 1)]) := by show _ = _; rw [HT.out]; exact live_all
    clear HD HR HD21 HB21 HBC
    go_region_held3 (fun X => X.cell? ⟨w.heap.size, 0, none⟩ = some (.int .i64 1) ∧ X.cell? ⟨w.heap.size, 1, none⟩ = some (.int .i64 1) ∧ X.cell? ⟨w.heap.size + 1, 0, none⟩ = some (.int .i64 2) ∧ X.cell? ⟨w.heap.size + 1, 1, none⟩ = some (.int .i64 1))
      (exact K5.out _ (by repeat (first | with_reducible exact HB63.out | with_reducible exact HB56.out | with_reducible exact HB51.out | with_reducible exact HB47.out | with_reducible exact HB43.out | with_reducible exact HB34.out | with_reducible exact HB22.out | with_reducible refine blAlloc ?_ _ | with_reducible refine Below.drew ?_)))
      (first
        | ((try go_simp); go_at_call 6; refine (num6_any _ _).mono ?_; rintro e _ ⟨rfl, rfl⟩)
        | (have _q := HX56.out; clear _q; (try go_simp); go_at_call 14; go_must (refine (same_any a a2 c c2 l l2 _ HF.out.1 (Dl.later HD56.out (by repeat (first | with_reducible exact Below.refl _ _ | with_reducible refine blAlloc ?_ _ | with_reducible refine Below.drew ?_))) (Dl.later HP56.out (by repeat (first | with_reducible exact Below.refl _ _ | with_reducible refine blAlloc ?_ _ | with_reducible refine Below.drew ?_)))).mono ?_; rintro e w63 ⟨rfl, h5⟩; rw [HQ3.out]; have HB63 : Hid (Below W.heap.size W w63) := blThen (by repeat (first | with_reducible exact HB63.out | with_reducible exact HB56.out | with_reducible exact HB51.out | with_reducible exact HB47.out | with_reducible exact HB43.out | with_reducible exact HB34.out | with_reducible exact HB22.out | with_reducible refine blAlloc ?_ _ | with_reducible refine Below.drew ?_)) h5; clear h5))
        | (have _q := HX51.out; clear _q; (try go_simp); go_at_call 8; go_must (refine (pcheck_any _ _ [⟨-1, none, 0, []⟩] _ (by refine ⟨by decide, fun s hs => ?_⟩; rw [List.mem_singleton] at hs; subst hs; decide) (by decide) (by refine dl_neg ?_ ?_ ?_ <;> first | omega | (go_simp; done) | (simp; done) | (simp; omega))).mono ?_; rintro e w56 ⟨rfl, h5⟩; rw [show checkD (toD [⟨-1, none, 0, []⟩]) = 60 from live_bad]; have HX56 := Lib.hid h5; have HB56 : Hid (Below W.heap.size W w56) := blThen (by repeat (first | with_reducible exact HB63.out | with_reducible exact HB56.out | with_reducible exact HB51.out | with_reducible exact HB47.out | with_reducible exact HB43.out | with_reducible exact HB34.out | with_reducible exact HB22.out | with_reducible refine blAlloc ?_ _ | with_reducible refine Below.drew ?_)) h5; have HD56 := Lib.hid (Dl.later (Dl.later HD51.out (by repeat (first | with_reducible exact Below.refl _ _ | with_reducible refine blAlloc ?_ _ | with_reducible refine Below.drew ?_))) h5); have HP56 := Lib.hid (Dl.later (Dl.later HP51.out (by repeat (first | with_reducible exact Below.refl _ _ | with_reducible refine blAlloc ?_ _ | with_reducible refine Below.drew ?_))) h5); clear h5))
        | (have _q := HX47.out; clear _q; (try go_simp); go_at_call 12; go_must (refine (refsameS_any _ _ _ _ [(1, 1), (2, 1)] [(1, 1), (2, 1)] _ (by decide) (SL.later HS47.out (by repeat (first | with_reducible exact Below.refl _ _ | with_reducible refine blAlloc ?_ _ | with_reducible refine Below.drew ?_))) (by first | (refine sl_dir2 ?_ ?_ ?_ ?_ ?_ <;> first | omega | (go_simp; done) | (simp; done) | (simp; omega)) | (refine SL.later (SL.later ?_ HX47.out) ?_; rotate_left; (repeat (first | with_reducible exact Below.refl _ _ | with_reducible refine blAlloc ?_ _ | with_reducible refine Below.drew ?_)); (refine sl_dir2 ?_ ?_ ?_ ?_ ?_ <;> first | omega | (go_simp; done) | (simp; done) | (simp; omega))))).mono ?_; rintro e w51 ⟨rfl, h5⟩; have HX51 := Lib.hid h5; have HB51 : Hid (Below W.heap.size W w51) := blThen (by repeat (first | with_reducible exact HB63.out | with_reducible exact HB56.out | with_reducible exact HB51.out | with_reducible exact HB47.out | with_reducible exact HB43.out | with_reducible exact HB34.out | with_reducible exact HB22.out | with_reducible refine blAlloc ?_ _ | with_reducible refine Below.drew ?_)) h5; have HD51 := Lib.hid (Dl.later (Dl.later HD47.out (by repeat (first | with_reducible exact Below.refl _ _ | with_reducible refine blAlloc ?_ _ | with_reducible refine Below.drew ?_))) h5); have HP51 := Lib.hid (Dl.later (Dl.later HP47.out (by repeat (first | with_reducible exact Below.refl _ _ | with_reducible refine blAlloc ?_ _ | with_reducible refine Below.drew ?_))) h5); clear h5))
        | (have _q := HX43.out; clear _q; (try go_simp); go_at_call 13; go_must (refine (pall_any a c l _ HF.out.2.2 HF.out.2.1 (Dl.later HD43.out (by repeat (first | with_reducible exact Below.refl _ _ | with_reducible refine blAlloc ?_ _ | with_reducible refine Below.drew ?_)))).mono ?_; rintro e w47 ⟨a47, c47, rfl, h1, h2, h3, h5⟩; rw [HQA.out] at h1 ⊢; have HS47 := Lib.hid h1; have HX47 := Lib.hid h5; have HB47 : Hid (Below W.heap.size W w47) := blThen (by repeat (first | with_reducible exact HB63.out | with_reducible exact HB56.out | with_reducible exact HB51.out | with_reducible exact HB47.out | with_reducible exact HB43.out | with_reducible exact HB34.out | with_reducible exact HB22.out | with_reducible refine blAlloc ?_ _ | with_reducible refine Below.drew ?_)) h5; have HD47 := Lib.hid (Dl.later (Dl.later HD43.out (by repeat (first | with_reducible exact Below.refl _ _ | with_reducible refine blAlloc ?_ _ | with_reducible refine Below.drew ?_))) h5); have HP47 := Lib.hid (Dl.later (Dl.later HP43.out (by repeat (first | with_reducible exact Below.refl _ _ | with_reducible refine blAlloc ?_ _ | with_reducible refine Below.drew ?_))) h5); clear h1 h2 h3 h5))
        | (have _q := HX34.out; clear _q; (try go_simp); go_at_call 11; go_must (refine (refsame6_any a2 a c2 c l2 l _ HF2.out.1 (Dl.later HP34.out (by repeat (first | with_reducible exact Below.refl _ _ | with_reducible refine blAlloc ?_ _ | with_reducible refine Below.drew ?_))) (Dl.later HD34.out (by repeat (first | with_reducible exact Below.refl _ _ | with_reducible refine blAlloc ?_ _ | with_reducible refine Below.drew ?_)))).mono ?_; rintro e w43 ⟨rfl, h5⟩; rw [HQ2.out]; have HX43 := Lib.hid h5; have HB43 : Hid (Below W.heap.size W w43) := blThen (by repeat (first | with_reducible exact HB63.out | with_reducible exact HB56.out | with_reducible exact HB51.out | with_reducible exact HB47.out | with_reducible exact HB43.out | with_reducible exact HB34.out | with_reducible exact HB22.out | with_reducible refine blAlloc ?_ _ | with_reducible refine Below.drew ?_)) h5; have HD43 := Lib.hid (Dl.later (Dl.later HD34.out (by repeat (first | with_reducible exact Below.refl _ _ | with_reducible refine blAlloc ?_ _ | with_reducible refine Below.drew ?_))) h5); have HP43 := Lib.hid (Dl.later (Dl.later HP34.out (by repeat (first | with_reducible exact Below.refl _ _ | with_reducible refine blAlloc ?_ _ | with_reducible refine Below.drew ?_))) h5); clear h5))
        | ((try go_simp); go_at_call 11; go_must (refine (live_same HT.out HF.out.1 (Dl.later HDX.out (by repeat (first | with_reducible exact Below.refl _ _ | with_reducible refine blAlloc ?_ _ | with_reducible refine Below.drew ?_))) (by first | (refine ⟨w22.heap.size, w22.heap.size + 1, ?_⟩; refine dl_two ?_ ?_ ?_ ?_ ?_ ?_ ?_ <;> first | omega | (go_simp; done) | (simp; done) | (simp; omega) | (refine sl_dir2 ?_ ?_ ?_ ?_ ?_ <;> first | omega | (go_simp; done) | (simp; done) | (simp; omega)) | (refine sl_dir ?_ ?_ ?_ <;> first | omega | (go_simp; done) | (simp; done) | (simp; omega))) | (refine ⟨w22.heap.size + 1, w22.heap.size, ?_⟩; refine dl_two ?_ ?_ ?_ ?_ ?_ ?_ ?_ <;> first | omega | (go_simp; done) | (simp; done) | (simp; omega) | (refine sl_dir2 ?_ ?_ ?_ ?_ ?_ <;> first | omega | (go_simp; done) | (simp; done) | (simp; omega)) | (refine sl_dir ?_ ?_ ?_ <;> first | omega | (go_simp; done) | (simp; done) | (simp; omega))))).mono ?_; rintro e w34 ⟨rfl, h5⟩; have HX34 := Lib.hid h5; have HB34 : Hid (Below W.heap.size W w34) := blThen (by repeat (first | with_reducible exact HB63.out | with_reducible exact HB56.out | with_reducible exact HB51.out | with_reducible exact HB47.out | with_reducible exact HB43.out | with_reducible exact HB34.out | with_reducible exact HB22.out | with_reducible refine blAlloc ?_ _ | with_reducible refine Below.drew ?_)) h5; have HD34 := Lib.hid (Dl.later (Dl.later HDX.out (by repeat (first | with_reducible exact Below.refl _ _ | with_reducible refine blAlloc ?_ _ | with_reducible refine Below.drew ?_))) h5); have HP34 := Lib.hid (Dl.later (Dl.later HD2.out (by repeat (first | with_reducible exact Below.refl _ _ | with_reducible refine blAlloc ?_ _ | with_reducible refine Below.drew ?_))) h5); clear h5)))
    all_goals
      go_wp2
      go_ret
      exact ⟨rfl, blThen HBW.out HB63.out⟩

end SD
end Go.Proofs.Ytjlbhffdlogflaa

/- DepsOnce: whatever the bytes, the place and the byte, the law returns true: bytes that are dependencies are the bytes of them; cut off, or longer, they are none. Conditions: none. -/
set_option linter.unusedVariables false
set_option linter.unusedSimpArgs false
namespace Go.Proofs.Ytjlbhffdlogflaa
open S1 SP
namespace SD
open Go.ChangeShapes Go.WideShapes Go.ChangeAt Go.RowKit Go.Joins Go.Deep

theorem parse_more {l : List UInt8} {d : Dd} (h : parseD l = some d) (x : UInt8) : parseD (l ++ [x]) = none := by
  obtain ⟨h1, h2⟩ := parse_some h
  rw [← h1, parse_front h2, if_neg (by simp)]
theorem parse_cut {l : List UInt8} {d : Dd} (h : parseD l = some d) (k : Nat) (hk : k < l.length) : parseD (l.take k) = none := by
  cases h2 : parseD (l.take k) with
  | none => rfl
  | some e =>
    obtain ⟨h3, h4⟩ := parse_some h2
    have h5 := parse_front h4 (l.drop k)
    rw [h3, List.take_append_drop, if_neg (by simp; omega)] at h5
    rw [h5] at h
    cases h
/-- Bytes that came in, as a text. -/
theorem bw_str {w : World} {g : Nat} {v : Value} {l : List UInt8} (h : S2.Bw w g v l) : (convert 22 9 v).run Try.prog w = .ok (.string ⟨l.toArray⟩) w := by
  obtain ⟨a, c, rfl, h0, h1, h2⟩ := h
  cases a with
  | none =>
    obtain ⟨rfl, rfl⟩ := h0 rfl
    exact Lib.run_convert_nil_bytes w 22 9 5 0 Try.underlying22 Try.underlying5 Try.underlying9
  | some p =>
    refine run_convert_bytes_back w 22 9 5 p c l Try.underlying22 Try.underlying5 Try.underlying9 fun j hj => ?_
    obtain ⟨o, ho, hc⟩ := h2 (by rintro rfl; simp at hj)
    simp only [Option.some.injEq] at ho
    subst ho
    rw [S2.add_plain]
    exact hc j _ (List.getElem?_eq_getElem hj)
theorem bw_cut {w : World} {g k : Nat} {a : Option Addr} {n c : Nat} {l : List UInt8} (h : S2.Bw w g (.slice a n c) l) (hk : k < l.length) : S2.Bw w g (.slice a k c) (l.take k) := by
  obtain ⟨a', c', hv, h0, h1, h2⟩ := h
  cases hv
  obtain ⟨o, ho, hc⟩ := h2 (by rintro rfl; simp at hk)
  subst ho
  have e : (l.take k).length = k := by simp; omega
  refine ⟨_, c, by rw [e], (fun h => by cases h), by rw [e]; omega, fun _ => ⟨o, rfl, fun j x hj => hc j x ?_⟩⟩
  have hj2 : j < (l.take k).length := (List.getElem?_eq_some_iff.1 hj).1
  rw [e] at hj2
  rw [List.getElem?_take] at hj
  rw [if_pos hj2] at hj
  exact hj
theorem bw_keep {w x : World} {g : Nat} {v : Value} {l : List UInt8} (h : S2.Bw w g v l) (hb : Below w.heap.size w x) : S2.Bw x g v l := by
  obtain ⟨a, c, hv, h0, h1, h2⟩ := h
  refine ⟨a, c, hv, h0, h1, fun hne => ?_⟩
  obtain ⟨o, ho, hc⟩ := h2 hne
  refine ⟨o, ho, fun j y hj => ?_⟩
  rw [hb.cell (World.block_lt_of_cell? _ _ (hc j y hj))]
  exact hc j y hj
theorem below_app {w x y : World} {g : Option Nat} (h : Below w.heap.size w x) (k : x.grownBy y g) (hg : ∀ b, g = some b → w.heap.size ≤ b) : Below w.heap.size w y := h.grown k h.size hg
theorem new_app {B : Nat} {W : World} {g g' : Option Nat} (h : g' = g ∨ S2.New W g') (hW : B ≤ W.heap.size) (hg : ∀ k, g = some k → B ≤ k) : ∀ k, g' = some k → B ≤ k := by
  intro k e
  rcases h with h | h
  · exact hg k (h ▸ e)
  · exact Nat.le_trans hW (h k e)
theorem few_of {l : List Dp} (h : checkD (toD l) = 0) : FewD l ∧ idsN (toD l) ≤ 1000000 ∧ l.length ≤ 1000 := by
  have hw := check_wf h
  obtain ⟨h1, h2, h3⟩ := checkD_ok.1 h
  have hl : (toD l).length = l.length := by simp [toD]
  have hlen : l.length ≤ 8 := by omega
  have hs : ∀ s ∈ l, s.ids.length ≤ 1250 := by
    intro s hs
    exact (hw (s.sh, s.ids) (List.mem_map.2 ⟨s, hs, rfl⟩)).2.2
  refine ⟨⟨by omega, fun s h => Nat.le_trans (hs s h) (by decide)⟩, ?_, by omega⟩
  refine Nat.le_trans (idsN_le8 (m := 1250) fun x hx => (hw x hx).2.2) ?_
  rw [hl]
  omega

set_option maxRecDepth 100000 in
set_option maxHeartbeats 8000000 in
theorem once_walk (g : Nat) (a : Option Addr) (n c : Nat) (l : List UInt8) (cut : Int) (more : UInt8) (w : World) (hb : S2.Bw w g (.slice a n c) l) (hc : a ≠ none → n ≤ c) :
    Calls Try.prog 3 #[.slice a n c, .int .i64 cut, .int .u8 (more.toNat : Int)] w fun e w' => e = .returned (.bool true) ∧ Below w.heap.size w w' := by
  have hn : n = l.length := by obtain ⟨_, _, hv, _⟩ := hb; cases hv; rfl
  subst hn
  have HB := Lib.hid hb
  have HC := Lib.hid hc
  clear hb hc
  by_cases hbig : 20000 < l.length
  · have hbigI : (20000 : Int) < (l.length : Int) := by omega
    go_enter Try.func3, Try.ntmps3
    go_wp2_with (go_at_call 4; refine (dlive_any _).mono ?_; rintro e w9 ⟨rfl, h5⟩; have HB9 := Lib.hid h5; clear h5)
    go_ret
    exact ⟨rfl, HB9.out⟩
  · have hbigI : ¬ (20000 : Int) < (l.length : Int) := by omega
    cases hp : parseD l with
    | none =>
      go_enter Try.func3, Try.ntmps3
      go_wp2_with fail
      refine (parse_any g a l.length c l _ HB.out (by omega)).mono ?_
      rintro e w1 ⟨a1, c1, l1, rfl, h1, h2, h3, h4, h5⟩
      rw [hp] at h1 ⊢
      have hl1 : l1 = [] := by simpa [toD] using h1
      subst hl1
      have HB1 := Lib.hid h5
      clear h1 h2 h3 h4 h5
      go_wp2_with (first | (go_at_call 4; refine (dlive_any _).mono ?_; rintro e w9 ⟨rfl, h5⟩; have HB9 := Lib.hid h5; clear h5) | (go_at_call 6; refine (num6_any _ _).mono ?_; rintro e w0 ⟨rfl, rfl⟩))
      go_ret
      exact ⟨rfl, blThen HB1.out HB9.out⟩
    | some d =>
      obtain ⟨hlay, hck⟩ := parse_some hp
      have HM := Lib.hid (parse_more hp more)
      have HCUT : Hid (∀ k, k < l.length → parseD (l.take k) = none) := fun k hk => parse_cut hp k hk
      go_enter Try.func3, Try.ntmps3
      go_wp2_with fail
      refine (parse_any g a l.length c l _ HB.out (by omega)).mono ?_
      rintro e w1 ⟨a1, c1, l1, rfl, h1, h2, h3, h4, h5⟩
      rw [hp] at h1 ⊢
      have hd1 : toD l1 = d := h1
      clear h1
      subst hd1
      have HB1 := Lib.hid h5
      have HD1 := Lib.hid h2
      have hbw1 := bw_keep HB.out h5
      have hbd := bw_str (bw_keep hbw1 ((Below.refl _ _).drew))
      have HBW1 := Lib.hid hbw1
      have HLAY := Lib.hid hlay
      have HCK := Lib.hid hck
      have HFEW := Lib.hid (few_of hck)
      clear h2 h3 h4 h5 hlay hck hp hbw1
      go_wp2_with (go_at_call 6; refine (num6_any _ _).mono ?_; rintro e w0 ⟨rfl, rfl⟩)
      go_region_with (first | (go_at_call 7; go_must (refine (put_any _ _ l1 _ HFEW.out.1 HFEW.out.2.1 (Dl.later HD1.out (by repeat (first | with_reducible exact Below.refl _ _ | with_reducible refine blAlloc ?_ _ | with_reducible refine Below.drew ?_)))).mono ?_; rw [HLAY.out]; rintro e x1 ⟨v1, g1, rfl, h1, h2, h3⟩; obtain ⟨p1, n1, q1, rfl⟩ := h1.form; have hs1 := bw_str h1.bs.bw; have HX1 : Hid (Below w1.heap.size w1 x1) := blThen (by repeat (first | with_reducible exact Below.refl _ _ | with_reducible refine blAlloc ?_ _ | with_reducible refine Below.drew ?_)) h3; have hsb1 := bw_str (bw_keep HBW1.out HX1.out); clear h1 h2 h3)) | (go_at_call 8; go_must (refine (pcheck_any _ _ l1 _ HFEW.out.1 HFEW.out.2.1 (Dl.later HD1.out (by repeat (first | with_reducible exact HX1.out | with_reducible exact Below.refl _ _ | with_reducible refine blAlloc ?_ _ | with_reducible refine Below.drew ?_)))).mono ?_; rw [HCK.out]; rintro e x2 ⟨rfl, h3⟩; have HX2 : Hid (Below w1.heap.size w1 x2) := blThen (by repeat (first | with_reducible exact HX1.out | with_reducible exact Below.refl _ _ | with_reducible refine blAlloc ?_ _ | with_reducible refine Below.drew ?_)) h3; clear h3)) | (go_at_call 6; refine (num6_any _ _).mono ?_; rintro e w0 ⟨rfl, rfl⟩))
      all_goals
        have HBW2 := Lib.hid (bw_keep HBW1.out HX2.out)
        have HB2 := Lib.hid (blThen HB1.out HX2.out)
        have HL1 : Hid (([] : List UInt8).length + l.length ≤ 1099511627776) := by show _ ≤ _; simp; omega
        have HL2 : Hid (l.length + [more].length ≤ 1099511627776) := by show _ ≤ _; simp; omega
        clear hs1 hsb1
        go_wp2_with (first | (have _q := HR3.out; clear _q; at_builtin; go_must (refine S2.wpList_app rfl (.tmp 46) (.tmp 48) 22 rfl rfl rfl (HR3.out.keep (S2.Keeps.alloc (fun _ => False) _ _) (fun _ _ h => h)) (S2.one_src x3 more _ rfl _ rfl _ rfl) HL2.out ?_; intro v4 x4 g4 h1 h2 h3; obtain ⟨p4, n4, q4, rfl⟩ := h1.form; have HR4 := Lib.hid h1; have HX4 : Hid (Below x2.heap.size x2 x4) := below_app (blAlloc HX3.out _) h2 HN3.out; clear h1 h2 h3)) | (at_builtin; go_must (refine S2.wpList_app rfl (.tmp 44) (.tmp 45) 22 rfl rfl rfl (S2.row_empty _) (bw_keep HBW2.out (blAlloc (Below.refl _ _) _)).src HL1.out ?_; intro v3 x3 g3 h1 h2 h3; obtain ⟨p3, n3, q3, rfl⟩ := h1.form; have HR3 := Lib.hid h1; have HX3 : Hid (Below x2.heap.size x2 x3) := below_app (blAlloc (Below.refl _ _) _) h2 (fun k e => by cases e; exact Nat.le_refl _); have HN3 : Hid (∀ k, g3 = some k → x2.heap.size ≤ k) := new_app h3 (by simp) (fun k e => by cases e; exact Nat.le_refl _); clear h1 h2 h3)))
        refine (parse_any _ _ _ _ (l ++ [more]) _ HR4.out.bs.bw (by simp; omega)).mono ?_
        rintro e x5 ⟨a5, c5, l5, rfl, h1, h2, h3, h4, h5⟩
        rw [HM.out] at h1 ⊢
        have HX5 : Hid (Below x2.heap.size x2 x5) := Lib.hid (blThen HX4.out h5)
        clear h1 h2 h3 h4 h5
        by_cases hc0 : 0 ≤ cut
        · by_cases hc1 : cut < (l.length : Int)
          · obtain ⟨k, rfl⟩ := Int.eq_ofNat_of_zero_le hc0
            have hk : k < l.length := by omega
            have hne : l ≠ [] := by rintro rfl; simp at hk
            obtain ⟨o, rfl⟩ : ∃ o, a = some ⟨g, o, none⟩ := by
              obtain ⟨_, _, hv, _, _, h2⟩ := HB.out
              cases hv
              obtain ⟨o, ho, _⟩ := h2 hne
              exact ⟨o, ho⟩
            have hkc : (k : Int) ≤ (c : Int) := by have := HC.out (by simp); omega
            have hk0 : (0 : Int) ≤ (k : Int) := by omega
            have HK := Lib.hid (HCUT.out k hk)
            have HBW5 := Lib.hid (bw_cut (bw_keep HBW2.out HX5.out) hk)
            go_wp2_with (go_at_call 6; refine (num6_any _ _).mono ?_; rintro e w0 ⟨rfl, rfl⟩)
            refine (parse_any _ _ _ _ (l.take k) _ HBW5.out (by simp; omega)).mono ?_
            rintro e x6 ⟨a6, c6, l6, rfl, h1, h2, h3, h4, h5⟩
            rw [HK.out] at h1 ⊢
            have HX6 : Hid (Below x2.heap.size x2 x6) := Lib.hid (blThen HX5.out h5)
            clear h1 h2 h3 h4 h5
            go_wp2_with (first | (go_at_call 6; refine (num6_any _ _).mono ?_; rintro e w0 ⟨rfl, rfl⟩) | (go_at_call 4; refine (dlive_any _).mono ?_; rintro e w9 ⟨rfl, h5⟩; have HB9 := Lib.hid h5; clear h5))
            go_ret
            exact ⟨rfl, blThen (blThen HB2.out HX6.out) HB9.out⟩
          · go_wp2_with (first | (go_at_call 6; refine (num6_any _ _).mono ?_; rintro e w0 ⟨rfl, rfl⟩) | (go_at_call 4; refine (dlive_any _).mono ?_; rintro e w9 ⟨rfl, h5⟩; have HB9 := Lib.hid h5; clear h5))
            go_ret
            exact ⟨rfl, blThen (blThen HB2.out HX5.out) HB9.out⟩
        · go_wp2_with (first | (go_at_call 6; refine (num6_any _ _).mono ?_; rintro e w0 ⟨rfl, rfl⟩) | (go_at_call 4; refine (dlive_any _).mono ?_; rintro e w9 ⟨rfl, h5⟩; have HB9 := Lib.hid h5; clear h5))
          go_ret
          exact ⟨rfl, blThen (blThen HB2.out HX5.out) HB9.out⟩

theorem own6e : ownKnob Try.prog.godebug = none := by kernel_rfl
theorem laid6e : laidOutB Try.prog = true := by kernel_rfl
/-- A slice that came in is no longer than its room. -/
theorem slice_cap {P : Program} {w : World} {r : Reach} {b0 : Nat} {t e : TypeId} {a : Option Addr} {n c : Nat} (ht : P.underlying t = some (.slice e)) (h : Value.okWide P w r b0 t (.slice a n c)) : a ≠ none → n ≤ c := by
  intro ha
  cases a with
  | none => exact absurd rfl ha
  | some p =>
    simp only [Value.okWide, ht, Cell.okWide, Cell.ok] at h
    exact h.1
theorem byte_of {m : Int} (h : (Lit.int .u8 m).wf = true) : ∃ x : UInt8, m = (x.toNat : Int) := by
  have h1 : (0 : Int) ≤ m ∧ m ≤ 255 := by simpa [Lit.wf, IntKind.min, IntKind.max, IntKind.signed, IntKind.bits] using h
  refine ⟨UInt8.ofNat m.toNat, ?_⟩
  simp
  omega

set_option maxRecDepth 100000 in
theorem depsOnce_lifted (os : Os) (started : os.Started) (H : Type) (enc : TypeId × Value → H) :
    ReturnsInHanded {} Try.checked os 3 .any (Rows.depsOnceSpec.pre6 enc Try.prog Try.f3 Rows.depsOnceRow.domain false) (Rows.depsOnceSpec.post enc Try.prog Try.f3 false true false false) := by
  refine law_lift (C := Try.checked) own6e started (by kernel_rfl) Try.func3 laid6e rfl (by kernel_rfl) (fun _ _ _ _ => trodAll_mk1 (shut_bool Try.underlying4 true)) (fun ds h => match ds, h with | [_, _, _], _ => ⟨rfl, rfl, rfl⟩)
    (ChangeSpec.witness6 (enc := enc) (C := Try.checked) false ⟨#[], #[.slice none 0 0, .int .i64 0, .int .u8 0], []⟩ 8 (by kernel_rfl) (by kernel_rfl) (by kernel_rfl) (by kernel_rfl)) ?_
  intro W base args ds before hval0 hA0 hlt
  have hval : ∀ (j : Nat) t v, Try.f3.params[j]? = some t → args[j]? = some v → Value.okWide Try.prog W .any base t v := hval0
  have hA : DataW.TrodAll enc Try.prog W 0 (fun _ => true) true Try.f3.params.toList args.toList ds before := hA0
  rw [Try.params3] at hA hval
  obtain ⟨v0, v1, v2, d0, d1, d2, p0, p1, p2, rfl, rfl, rfl, h0, h1, h2⟩ := trodAll_three hA
  have hv0 := hval 0 22 v0 rfl rfl
  obtain ⟨g, l, hb⟩ := S2.open_bytesv hv0 h0
  obtain ⟨a, c, hv, _⟩ := id hb
  subst hv
  obtain ⟨cut, rfl, rfl, rfl, _⟩ := open_int Try.underlying3 (hval 1 3 v1 rfl rfl) h1
  obtain ⟨m, rfl, rfl, rfl, wm⟩ := open_int Try.underlying5 (hval 2 5 v2 rfl rfl) h2
  obtain ⟨x, rfl⟩ := byte_of wm
  exact once_walk g a l.length c l cut x W hb (slice_cap Try.underlying22 hv0)

theorem depsOnce_holds : Rows.DepsOnceSaid :=
  OpenClaim.holds_of_wide 3 Try.f3 rfl rfl rfl rfl rfl rfl rfl ⟨rfl, rfl, rfl, rfl, rfl⟩ rfl rfl rfl rfl rfl (by kernel_rfl) Try.func3 (by kernel_rfl)
    (of_decide_eq_true (by kernel_rfl)) (by unfold Func.isWrapper; rw [if_neg (of_decide_eq_false (by kernel_rfl))]; exact ⟨rfl, rfl⟩)
    (fun os started H enc _ => depsOnce_lifted os started H enc)

#print axioms depsOnce_holds

end SD
end Go.Proofs.Ytjlbhffdlogflaa
