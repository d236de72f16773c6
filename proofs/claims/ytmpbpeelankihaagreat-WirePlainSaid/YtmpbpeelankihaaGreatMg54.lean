/- WirePlain: of a kind of which no field has a part a message with one field more is refused, and one without may be just if its nodes and Id may: whatever kind, nodes, Id and field, the law returns true and leaves its arguments as they were. Conditions: none. -/
import Derived.Deep.CutRange
import Derived.Deep.CutBlock
import Derived.Deep.QuietTactic
import Derived.BigQuiet
import Derived.Deep.RegionHeld3
import Derived.WalkSpells
import Derived.SizedLaws
import Derived.Test.YtmpbpeelankihaaGreatMg53
import Derived.Test.YtmpbpeelankihaaGreatMg48
import Derived.Test.YtmpbpeelankihaaGreatMg49
import Derived.Test.YtmpbpeelankihaaGreatMg42
import Derived.Test.YtmpbpeelankihaaGreatMg38
import Derived.Test.YtmpbpeelankihaaGreatMg47
import Derived.Test.YtmpbpeelankihaaGreatMg07
set_option maxRecDepth 100000
set_option maxHeartbeats 16000000
set_option linter.unusedVariables false
set_option linter.unusedSimpArgs false
namespace Go.Proofs.YtmpbpeelankihaaGreat
open S3 SC SN SP
namespace SI
open Go.ChangeShapes Go.WideShapes Go.ChangeAt Go.RowKit Go.Joins Go.Deep
theorem plain_row {k : Int} (h : k = 13 ∨ k = 16 ∨ k = 17) : rowOf k = some [] := by
 rcases h with rfl | rfl | rfl <;> rfl
theorem plain_check {m : Mg} (h : rowOf m.kind = some []) : checkMB m = (nodeB m.frm && nodeB m.dst && S1.isS m.id && bareB m) := by
 unfold checkMB
 rw [h]
 simp
theorem plain_bad {m : Mg} (h : rowOf m.kind = some []) (hb : bareB m = false) : checkM m = 130 := by
 unfold checkM
 rw [plain_check h, hb, Bool.and_false]
 rfl
def rightB (frm dst a b : Int) : Bool := decide (1 ≤ frm) && decide (frm ≤ 7) && decide (1 ≤ dst) && decide (dst ≤ 7) && decide (1 ≤ a) && decide (a ≤ 1099511627776) && decide (1 ≤ b) && decide (b ≤ 7)
theorem right_is (frm dst a b : Int) : (nodeB frm && nodeB dst && S1.isS (a, b)) = rightB frm dst a b := by
 have e : S1.isS (a, b) = (decide (1 ≤ a) && decide (a ≤ 1099511627776) && decide (1 ≤ b) && decide (b ≤ 7)) := by
  unfold S1.isS
  by_cases h1 : 1 ≤ a <;> by_cases h2 : a ≤ 1099511627776 <;> by_cases h3 : 1 ≤ b <;> by_cases h4 : b ≤ 7 <;> simp [h1, h2, h3, h4]
 unfold nodeB rightB
 rw [e]
 simp only [Bool.and_assoc]
theorem fewV_nil : FewV [] := ⟨by simp, by decide⟩
theorem fewV_one : FewV [((0 : Int), ([] : List (Int × Int)))] := ⟨by simp, by decide⟩
theorem dlV_block {w : World} {k : Nat} {T : TypeId} (h : w.heap[k]? = some (.cells #[.int .i64 0, .slice none 0 0] T (0, 0))) : DlV w (.slice (some ⟨k, 0, none⟩) 1 1) [((0 : Int), ([] : List (Int × Int)))] := by
 refine ⟨some ⟨k, 0, none⟩, 1, [⟨0, none, 0, []⟩], rfl, ⟨fun s hs => ?_, fun _ => ⟨k, 0, rfl, lt_of_block h, fun i s hi => ?_⟩⟩, rfl, fun h => (by cases h)⟩
 ·have e : s = ⟨0, none, 0, []⟩ := by simpa using hs
  subst e
  exact ⟨fun h => absurd rfl h, fun _ => rfl, Nat.zero_le _⟩
 ·match i, hi with
  | 0, hi =>
   simp only [List.getElem?_cons_zero, Option.some.injEq] at hi
   subst hi
   exact ⟨cell_row h 0 _ rfl, cell_row h 1 _ rfl⟩
  | n + 1, hi => simp at hi
theorem nil_any {m : Mg} (W : World) (ho : m.ops = [] := by rfl) (hd : m.deps = [] := by rfl) (hv : m.val.2.2 = [] := by rfl) (hw : m.writes = [] := by rfl) (hp : m.pairs = [] := by rfl) : MsAt W m lN := ⟨by rw [ho]; exact slG_nil9 _ _, by rw [hd]; exact dlV_nil9 _, by rw [hv]; exact dlV_nil9 _, by rw [hw]; exact slG_nil9 _ _, by rw [hp]; exact slG_nil9 _ _⟩
theorem wirePlain_walk (kind frm dst which : Int) (id : Stp) (W : World) (hw : (Lit.int .i64 kind).wf = true) : Calls Tryz.prog 12 #[.int .i64 kind, .int .i64 frm, .int .i64 dst, .agg #[.int .i64 id.1, .int .i64 id.2], .int .i64 which] W fun e w' => e = .returned (.bool true) ∧ Below W.heap.size W w' := by
 obtain ⟨id1, id2⟩ := id
 simp only
 by_cases hk : kind = 13 ∨ kind = 16 ∨ kind = 17
 ·have HROW := Lib.hid (plain_row hk)
  have HCK0 := Lib.hid (fun (Y : World) => check13_any ⟨kind, frm, dst, (id1, id2), z2, z2, [], false, [], false, z2, val0, [], []⟩ lN Y (nil_any Y) ⟨by simp, fewV_nil, fewV_nil, by simp, by simp⟩ hw)
  obtain ⟨ck, hck⟩ : ∃ c, c = checkM ⟨kind, frm, dst, (id1, id2), z2, z2, [], false, [], false, z2, val0, [], []⟩ := ⟨_, rfl⟩
  have hcr : (ck == 0) = rightB frm dst id1 id2 := by
   rw [hck, ← right_is]
   unfold checkM
   rw [plain_check HROW.out]
   have hb : bareB ⟨kind, frm, dst, (id1, id2), z2, z2, [], false, [], false, z2, val0, [], []⟩ = true := by simp [bareB, z2, val0]
   rw [hb, Bool.and_true]
   simp only
   cases nodeB frm && nodeB dst && S1.isS (id1, id2) <;> rfl
  rw [← hck] at HCK0
  have HCK : Hid (∀ Y : World, Calls Tryz.prog 58 #[.agg #[.int .i64 kind, .int .i64 frm, .int .i64 dst, .int .i64 id1, .int .i64 id2, .int .i64 0, .int .i64 0, .int .i64 0, .int .i64 0, .slice none 0 0, .bool false, .slice none 0 0, .bool false, .int .i64 0, .int .i64 0, .bool false, .int .i64 0, .int .i64 0, .slice none 0 0, .slice none 0 0, .slice none 0 0]] Y fun e w' => e = .returned (.int .i64 ck) ∧ Below Y.heap.size Y w') := HCK0
  have HCR := Lib.hid hcr
  clear HCK0 hck hcr
  have K0I : Hid (((W.alloc (.cells #[.int .i64 id1, .int .i64 id2] 23)).alloc (.cells #[.int .i64 0, .int .i64 0, .int .i64 0, .int .i64 0, .int .i64 0, .int .i64 0, .int .i64 0, .int .i64 0, .int .i64 0, .slice none 0 0, .bool false, .slice none 0 0, .bool false, .int .i64 0, .int .i64 0, .bool false, .int .i64 0, .int .i64 0, .slice none 0 0, .slice none 0 0, .slice none 0 0] 80)).heap[W.heap.size]? = some (.cells #[.int .i64 id1, .int .i64 id2] 23 (0, 0))) := Lib.hid (nth_box W [(.cells #[.int .i64 id1, .int .i64 id2] 23), (.cells #[.int .i64 0, .int .i64 0, .int .i64 0, .int .i64 0, .int .i64 0, .int .i64 0, .int .i64 0, .int .i64 0, .int .i64 0, .slice none 0 0, .bool false, .slice none 0 0, .bool false, .int .i64 0, .int .i64 0, .bool false, .int .i64 0, .int .i64 0, .slice none 0 0, .slice none 0 0, .slice none 0 0] 80)] 0 _ rfl).1
  have K0M : Hid (((W.alloc (.cells #[.int .i64 id1, .int .i64 id2] 23)).alloc (.cells #[.int .i64 0, .int .i64 0, .int .i64 0, .int .i64 0, .int .i64 0, .int .i64 0, .int .i64 0, .int .i64 0, .int .i64 0, .slice none 0 0, .bool false, .slice none 0 0, .bool false, .int .i64 0, .int .i64 0, .bool false, .int .i64 0, .int .i64 0, .slice none 0 0, .slice none 0 0, .slice none 0 0] 80)).heap[W.heap.size + 1]? = some (.cells #[.int .i64 0, .int .i64 0, .int .i64 0, .int .i64 0, .int .i64 0, .int .i64 0, .int .i64 0, .int .i64 0, .int .i64 0, .slice none 0 0, .bool false, .slice none 0 0, .bool false, .int .i64 0, .int .i64 0, .bool false, .int .i64 0, .int .i64 0, .slice none 0 0, .slice none 0 0, .slice none 0 0] 80 (0, 0))) := Lib.hid (nth_box W [(.cells #[.int .i64 id1, .int .i64 id2] 23), (.cells #[.int .i64 0, .int .i64 0, .int .i64 0, .int .i64 0, .int .i64 0, .int .i64 0, .int .i64 0, .int .i64 0, .int .i64 0, .slice none 0 0, .bool false, .slice none 0 0, .bool false, .int .i64 0, .int .i64 0, .bool false, .int .i64 0, .int .i64 0, .slice none 0 0, .slice none 0 0, .slice none 0 0] 80)] 1 _ rfl).1
  have HB0 : Hid (Below W.heap.size W ((W.alloc (.cells #[.int .i64 id1, .int .i64 id2] 23)).alloc (.cells #[.int .i64 0, .int .i64 0, .int .i64 0, .int .i64 0, .int .i64 0, .int .i64 0, .int .i64 0, .int .i64 0, .int .i64 0, .slice none 0 0, .bool false, .slice none 0 0, .bool false, .int .i64 0, .int .i64 0, .bool false, .int .i64 0, .int .i64 0, .slice none 0 0, .slice none 0 0, .slice none 0 0] 80))) := Lib.hid (blAlloc (blAlloc (Below.refl _ _) _) _)
  go_enter Tryz.func12, Tryz.ntmps12
  go_upto_region 1 with fail
  go_cut [25] from 16 to 25 (fun s25 wx => s25 = .bool false ∧ wx = W.alloc (.cells #[.int .i64 id1, .int .i64 id2] 23))
  case first =>
   rcases hk with rfl | rfl | rfl
   all_goals
    go_wp2_with fail
    go_meet
    exact ⟨rfl, rfl⟩
  case rest =>
   obtain ⟨e25, e26⟩ := hcut
   rw [e25, e26]
   clear e25 e26
   have HKK := Lib.hid hk
   clear hk
   have hcr := HCR.out
   go_upto_block 0 with (first | go_skip | ((with_reducible refine atW (w2.alloc (.cells #[.int .i64 0, .int .i64 0, .int .i64 0, .int .i64 0, .int .i64 0, .int .i64 0, .int .i64 0, .int .i64 0, .int .i64 0, .slice none 0 0, .bool false, .slice none 0 0, .bool false, .int .i64 0, .int .i64 0, .bool false, .int .i64 0, .int .i64 0, .slice none 0 0, .slice none 0 0, .slice none 0 0] 80)) ?_); refine storeM _ _ rfl rfl _ rfl rfl (new_blockC w2 _ _) rfl rfl (by simp [Value.oneCell']) ?_; intro w3 h1 h2; have K3 := Lib.hid h1; have LTI : Hid (W.heap.size < w2.heap.size) := Lib.hid (lt_of_block KI2.out); have KI3 := Lib.hid (grown_other9 (((blAlloc (Below.refl w2.heap.size w2) (.cells #[.int .i64 0, .int .i64 0, .int .i64 0, .int .i64 0, .int .i64 0, .int .i64 0, .int .i64 0, .int .i64 0, .int .i64 0, .slice none 0 0, .bool false, .slice none 0 0, .bool false, .int .i64 0, .int .i64 0, .bool false, .int .i64 0, .int .i64 0, .slice none 0 0, .slice none 0 0, .slice none 0 0] 80)).block W.heap.size (lt_of_block KI2.out)).trans KI2.out) h2 (by have := LTI.out; simp; omega) (by have := LTI.out; omega)); have HB3 : Hid (Below W.heap.size W w3) := Lib.hid (blThen HB2.out (below_grown9 (blAlloc (Below.refl _ _) _) h2 (Nat.le_refl _))); clear h1 h2) | ((with_reducible refine atW w2 ?_); refine loadM _ rfl rfl _ rfl K2.out rfl ?_) | (go_at_call 57; go_must (refine (num13_any _ _).mono ?_; rintro e wn ⟨rfl, rfl⟩)) | (go_at_call 58; go_must (refine (HCK.out w1).mono ?_; rintro e w2 ⟨rfl, h5⟩; have K2 := Lib.hid ((h5.block _ (lt_of_block K1.out)).trans K1.out); have KI2 := Lib.hid ((h5.block _ (lt_of_block KI1.out)).trans KI1.out); have HB2 : Hid (Below W.heap.size W w2) := Lib.hid (blThen HB1.out h5); clear h5)) | ((with_reducible refine atW w1 ?_); refine loadM _ rfl rfl _ rfl K1.out rfl ?_) | ((with_reducible refine atW ((W.alloc (.cells #[.int .i64 id1, .int .i64 id2] 23)).alloc (.cells #[.int .i64 0, .int .i64 0, .int .i64 0, .int .i64 0, .int .i64 0, .int .i64 0, .int .i64 0, .int .i64 0, .int .i64 0, .slice none 0 0, .bool false, .slice none 0 0, .bool false, .int .i64 0, .int .i64 0, .bool false, .int .i64 0, .int .i64 0, .slice none 0 0, .slice none 0 0, .slice none 0 0] 80)) ?_); refine storeM _ _ rfl rfl _ rfl rfl K0M.out rfl rfl (by simp [Value.oneCell']) ?_; intro w1 h1 h2; have K1 := Lib.hid h1; have KI1 := Lib.hid (grown_other9 K0I.out h2 (lt_of_block K0I.out) (by omega)); have HB1 : Hid (Below W.heap.size W w1) := Lib.hid (below_grown9 HB0.out h2 (by omega)); clear h1 h2))
   have hA : Below w3.heap.size w3 (w3.alloc (.cells #[.int .i64 1, .int .i64 1] 23)) := blAlloc (Below.refl _ _) _
   have KX := Lib.hid ((hA.block w2.heap.size (lt_of_block K3.out)).trans K3.out)
   have KIQ := Lib.hid ((hA.block W.heap.size (lt_of_block KI3.out)).trans KI3.out)
   have KS : Hid ((w3.alloc (.cells #[.int .i64 1, .int .i64 1] 23)).heap[w3.heap.size]? = some (.cells #[.int .i64 1, .int .i64 1] 23 (0, 0))) := Lib.hid (new_blockC w3 _ _)
   have HBQ : Hid (Below W.heap.size W (w3.alloc (.cells #[.int .i64 1, .int .i64 1] 23))) := Lib.hid (blThen HB3.out hA)
   clear hA K3 KI3 HB3 HB2 HB1 K2 K1 KI1 KI2 hcr
   generalize w3.alloc (.cells #[.int .i64 1, .int .i64 1] 23) = wq at *
   go_cut [13] from 40 to 81 (fun s13 wx => s13 = .pointer (some ⟨w2.heap.size, 0, none⟩) ∧ ∃ xm xl, wx.heap[w2.heap.size]? = some (.cells (msR xm xl) 80 (0, 0)) ∧ MsAt wx xm xl ∧ FewM xm ∧ xm.kind = kind ∧ checkM xm = 130 ∧ wx.heap[W.heap.size]? = some (.cells #[.int .i64 id1, .int .i64 id2] 23 (0, 0)) ∧ Below W.heap.size W wx)
   case first =>
    by_cases h0 : which = 0
    ·subst h0
     go_wp2_with (first | go_skip | ((with_reducible refine atW wq ?_); refine wpList_store_part _ _ _ rfl (by rfl) _ 5 rfl rfl (cs := #[.int .i64 1, .int .i64 1]) rfl KX.out (by kernel_rfl) (by simp) (by simp [Value.oneCell']) (D := msR ⟨kind, frm, dst, (id1, id2), (1, 1), z2, [], false, [], false, z2, val0, [], []⟩ ⟨.slice none 0 0, .slice none 0 0, .slice none 0 0, .slice none 0 0, .slice none 0 0⟩) rfl ?_; intro wx h1 h2; have KN := Lib.hid h1; have GN := Lib.hid h2; clear h1 h2) | ((with_reducible refine atW wq ?_); refine wpList_load_part _ _ rfl (by rfl) _ 0 rfl KS.out Tryz.underlying23 rfl #[.int .i64 1, .int .i64 1] (by kernel_rfl) (two_at rfl rfl) ?_))
     go_meet
     exact ⟨rfl, ⟨kind, frm, dst, (id1, id2), (1, 1), z2, [], false, [], false, z2, val0, [], []⟩, ⟨.slice none 0 0, .slice none 0 0, .slice none 0 0, .slice none 0 0, .slice none 0 0⟩, KN.out, ⟨slG_nil9 _ _, dlV_nil9 _, dlV_nil9 _, slG_nil9 _ _, slG_nil9 _ _⟩, ⟨by simp, fewV_nil, fewV_nil, by simp, by simp⟩, rfl, plain_bad HROW.out (by simp [bareB, z2, val0]), (grown_other9 KIQ.out GN.out (lt_of_block KIQ.out) (by have := LTI.out; omega)), (below_grown9 HBQ.out GN.out (Nat.le_of_lt LTI.out))⟩
    ·have b0 : (which == 0) = false := by simpa using h0
     by_cases h1 : which = 1
     ·subst h1
      go_wp2_with (first | go_skip | ((with_reducible refine atW wq ?_); refine wpList_store_part _ _ _ rfl (by rfl) _ 7 rfl rfl (cs := #[.int .i64 1, .int .i64 1]) rfl KX.out (by kernel_rfl) (by simp) (by simp [Value.oneCell']) (D := msR ⟨kind, frm, dst, (id1, id2), z2, (1, 1), [], false, [], false, z2, val0, [], []⟩ ⟨.slice none 0 0, .slice none 0 0, .slice none 0 0, .slice none 0 0, .slice none 0 0⟩) rfl ?_; intro wx h1 h2; have KN := Lib.hid h1; have GN := Lib.hid h2; clear h1 h2) | ((with_reducible refine atW wq ?_); refine wpList_load_part _ _ rfl (by rfl) _ 0 rfl KS.out Tryz.underlying23 rfl #[.int .i64 1, .int .i64 1] (by kernel_rfl) (two_at rfl rfl) ?_))
      go_meet
      exact ⟨rfl, ⟨kind, frm, dst, (id1, id2), z2, (1, 1), [], false, [], false, z2, val0, [], []⟩, ⟨.slice none 0 0, .slice none 0 0, .slice none 0 0, .slice none 0 0, .slice none 0 0⟩, KN.out, ⟨slG_nil9 _ _, dlV_nil9 _, dlV_nil9 _, slG_nil9 _ _, slG_nil9 _ _⟩, ⟨by simp, fewV_nil, fewV_nil, by simp, by simp⟩, rfl, plain_bad HROW.out (by simp [bareB, z2, val0]), (grown_other9 KIQ.out GN.out (lt_of_block KIQ.out) (by have := LTI.out; omega)), (below_grown9 HBQ.out GN.out (Nat.le_of_lt LTI.out))⟩
     ·have b1 : (which == 1) = false := by simpa using h1
      by_cases h2 : which = 2
      ·subst h2
       have hfd : ∀ (ka : Nat) (Y : World), (Instr.field 80 (.agg (msR sL (lS ka))) 6).run Tryz.prog Y = .ok (.slice (some ⟨ka, 0, none⟩) 1 1) Y := by intro ka Y; kernel_rfl
       have LXQ : Hid (w2.heap.size < wq.heap.size) := Lib.hid (lt_of_block KX.out)
       go_wp2_with (first | go_skip | ((with_reducible refine atW wa ?_); refine wpList_store_part _ _ _ rfl (by rfl) _ 9 rfl rfl (cs := #[.slice (some ⟨ka, 0, none⟩) 1 1]) rfl KXa.out (by kernel_rfl) (by simp) (by simp [Value.oneCell']) (D := msR ⟨kind, frm, dst, (id1, id2), z2, z2, [opL], false, [], false, z2, val0, [], []⟩ ⟨.slice (some ⟨ka, 0, none⟩) 1 1, .slice none 0 0, .slice none 0 0, .slice none 0 0, .slice none 0 0⟩) rfl ?_; intro wx h1 h2; have KN := Lib.hid h1; have GN := Lib.hid h2; clear h1 h2) | (go_at_call 61; go_must (refine (some_any2 _).mono ?_; rintro e wa ⟨ka, rfl, ha, h5, hk, ho⟩; have KO := Lib.hid ho; have LKA : Hid (w2.heap.size < ka) := Lib.hid (Nat.lt_of_lt_of_le LXQ.out hk); have KXa := Lib.hid ((h5.block w2.heap.size (lt_of_block KX.out)).trans KX.out); have KIa := Lib.hid ((h5.block W.heap.size (lt_of_block KIQ.out)).trans KIQ.out); have HBa : Hid (Below W.heap.size W wa) := Lib.hid (blThen HBQ.out h5); have hfa := hfd ka wa; clear ha h5 hk ho)))
       have KE := Lib.hid (grown_other9 KO.out GN.out (lt_of_block KO.out) (by have := LKA.out; omega))
       go_meet
       exact ⟨rfl, ⟨kind, frm, dst, (id1, id2), z2, z2, [opL], false, [], false, z2, val0, [], []⟩, ⟨.slice (some ⟨ka, 0, none⟩) 1 1, .slice none 0 0, .slice none 0 0, .slice none 0 0, .slice none 0 0⟩, KN.out, ⟨slG_block KE.out [opL] rfl 1 rfl, dlV_nil9 _, dlV_nil9 _, slG_nil9 _ _, slG_nil9 _ _⟩, ⟨by simp, fewV_nil, fewV_nil, by simp, by simp⟩, rfl, plain_bad HROW.out (by simp [bareB, z2, val0]), (grown_other9 KIa.out GN.out (lt_of_block KIa.out) (by have := LTI.out; omega)), (below_grown9 HBa.out GN.out (Nat.le_of_lt LTI.out))⟩
      ·have b2 : (which == 2) = false := by simpa using h2
       by_cases h3 : which = 3
       ·subst h3
        go_wp2_with (first | go_skip | ((with_reducible refine atW wq ?_); refine wpList_store_part _ _ _ rfl (by rfl) _ 10 rfl rfl (cs := #[.bool true]) rfl KX.out (by kernel_rfl) (by simp) (by simp [Value.oneCell']) (D := msR ⟨kind, frm, dst, (id1, id2), z2, z2, [], true, [], false, z2, val0, [], []⟩ ⟨.slice none 0 0, .slice none 0 0, .slice none 0 0, .slice none 0 0, .slice none 0 0⟩) rfl ?_; intro wx h1 h2; have KN := Lib.hid h1; have GN := Lib.hid h2; clear h1 h2))
        go_meet
        exact ⟨rfl, ⟨kind, frm, dst, (id1, id2), z2, z2, [], true, [], false, z2, val0, [], []⟩, ⟨.slice none 0 0, .slice none 0 0, .slice none 0 0, .slice none 0 0, .slice none 0 0⟩, KN.out, ⟨slG_nil9 _ _, dlV_nil9 _, dlV_nil9 _, slG_nil9 _ _, slG_nil9 _ _⟩, ⟨by simp, fewV_nil, fewV_nil, by simp, by simp⟩, rfl, plain_bad HROW.out (by simp [bareB, z2, val0]), (grown_other9 KIQ.out GN.out (lt_of_block KIQ.out) (by have := LTI.out; omega)), (below_grown9 HBQ.out GN.out (Nat.le_of_lt LTI.out))⟩
       ·have b3 : (which == 3) = false := by simpa using h3
        by_cases h4 : which = 4
        ·subst h4
         have hA : Below wq.heap.size wq (wq.alloc (.cells #[.int .i64 0, .slice none 0 0] 97)) := blAlloc (Below.refl _ _) _
         have KXA := Lib.hid ((hA.block w2.heap.size (lt_of_block KX.out)).trans KX.out)
         have KIA := Lib.hid ((hA.block W.heap.size (lt_of_block KIQ.out)).trans KIQ.out)
         have KEA : Hid ((wq.alloc (.cells #[.int .i64 0, .slice none 0 0] 97)).heap[wq.heap.size]? = some (.cells #[.int .i64 0, .slice none 0 0] 97 (0, 0))) := Lib.hid (new_blockC wq _ _)
         have HBA : Hid (Below W.heap.size W (wq.alloc (.cells #[.int .i64 0, .slice none 0 0] 97))) := Lib.hid (blThen HBQ.out hA)
         have LXQ : Hid (w2.heap.size < wq.heap.size) := Lib.hid (lt_of_block KX.out)
         clear hA
         go_wp2_with (first | go_skip | ((with_reducible refine atW (wq.alloc (.cells #[.int .i64 0, .slice none 0 0] 97)) ?_); refine wpList_store_part _ _ _ rfl (by rfl) _ 11 rfl rfl (cs := #[.slice (some ⟨wq.heap.size, 0, none⟩) 1 1]) rfl KXA.out (by kernel_rfl) (by simp) (by simp [Value.oneCell']) (D := msR ⟨kind, frm, dst, (id1, id2), z2, z2, [], false, [(0, [])], false, z2, val0, [], []⟩ ⟨.slice none 0 0, .slice (some ⟨wq.heap.size, 0, none⟩) 1 1, .slice none 0 0, .slice none 0 0, .slice none 0 0⟩) rfl ?_; intro wx h1 h2; have KN := Lib.hid h1; have GN := Lib.hid h2; clear h1 h2))
         have KE := Lib.hid (grown_other9 KEA.out GN.out (lt_of_block KEA.out) (by have := LXQ.out; omega))
         go_meet
         exact ⟨rfl, ⟨kind, frm, dst, (id1, id2), z2, z2, [], false, [(0, [])], false, z2, val0, [], []⟩, ⟨.slice none 0 0, .slice (some ⟨wq.heap.size, 0, none⟩) 1 1, .slice none 0 0, .slice none 0 0, .slice none 0 0⟩, KN.out, ⟨slG_nil9 _ _, dlV_block KE.out, dlV_nil9 _, slG_nil9 _ _, slG_nil9 _ _⟩, ⟨by simp, fewV_one, fewV_nil, by simp, by simp⟩, rfl, plain_bad HROW.out (by simp [bareB, z2, val0]), (grown_other9 KIA.out GN.out (lt_of_block KIA.out) (by have := LTI.out; omega)), (below_grown9 HBA.out GN.out (Nat.le_of_lt LTI.out))⟩
        ·have b4 : (which == 4) = false := by simpa using h4
         by_cases h5 : which = 5
         ·subst h5
          go_wp2_with (first | go_skip | ((with_reducible refine atW wq ?_); refine wpList_store_part _ _ _ rfl (by rfl) _ 12 rfl rfl (cs := #[.bool true]) rfl KX.out (by kernel_rfl) (by simp) (by simp [Value.oneCell']) (D := msR ⟨kind, frm, dst, (id1, id2), z2, z2, [], false, [], true, z2, val0, [], []⟩ ⟨.slice none 0 0, .slice none 0 0, .slice none 0 0, .slice none 0 0, .slice none 0 0⟩) rfl ?_; intro wx h1 h2; have KN := Lib.hid h1; have GN := Lib.hid h2; clear h1 h2))
          go_meet
          exact ⟨rfl, ⟨kind, frm, dst, (id1, id2), z2, z2, [], false, [], true, z2, val0, [], []⟩, ⟨.slice none 0 0, .slice none 0 0, .slice none 0 0, .slice none 0 0, .slice none 0 0⟩, KN.out, ⟨slG_nil9 _ _, dlV_nil9 _, dlV_nil9 _, slG_nil9 _ _, slG_nil9 _ _⟩, ⟨by simp, fewV_nil, fewV_nil, by simp, by simp⟩, rfl, plain_bad HROW.out (by simp [bareB, z2, val0]), (grown_other9 KIQ.out GN.out (lt_of_block KIQ.out) (by have := LTI.out; omega)), (below_grown9 HBQ.out GN.out (Nat.le_of_lt LTI.out))⟩
         ·have b5 : (which == 5) = false := by simpa using h5
          by_cases h6 : which = 6
          ·subst h6
           go_wp2_with (first | go_skip | ((with_reducible refine atW wq ?_); refine wpList_store_part _ _ _ rfl (by rfl) _ 13 rfl rfl (cs := #[.int .i64 1, .int .i64 1]) rfl KX.out (by kernel_rfl) (by simp) (by simp [Value.oneCell']) (D := msR ⟨kind, frm, dst, (id1, id2), z2, z2, [], false, [], false, (1, 1), val0, [], []⟩ ⟨.slice none 0 0, .slice none 0 0, .slice none 0 0, .slice none 0 0, .slice none 0 0⟩) rfl ?_; intro wx h1 h2; have KN := Lib.hid h1; have GN := Lib.hid h2; clear h1 h2) | ((with_reducible refine atW wq ?_); refine wpList_load_part _ _ rfl (by rfl) _ 0 rfl KS.out Tryz.underlying23 rfl #[.int .i64 1, .int .i64 1] (by kernel_rfl) (two_at rfl rfl) ?_))
           go_meet
           exact ⟨rfl, ⟨kind, frm, dst, (id1, id2), z2, z2, [], false, [], false, (1, 1), val0, [], []⟩, ⟨.slice none 0 0, .slice none 0 0, .slice none 0 0, .slice none 0 0, .slice none 0 0⟩, KN.out, ⟨slG_nil9 _ _, dlV_nil9 _, dlV_nil9 _, slG_nil9 _ _, slG_nil9 _ _⟩, ⟨by simp, fewV_nil, fewV_nil, by simp, by simp⟩, rfl, plain_bad HROW.out (by simp [bareB, z2, val0]), (grown_other9 KIQ.out GN.out (lt_of_block KIQ.out) (by have := LTI.out; omega)), (below_grown9 HBQ.out GN.out (Nat.le_of_lt LTI.out))⟩
          ·have b6 : (which == 6) = false := by simpa using h6
           by_cases h7 : which = 7
           ·subst h7
            go_wp2_with (first | go_skip | ((with_reducible refine atW wq ?_); refine wpList_store_part _ _ _ rfl (by rfl) _ 15 rfl rfl (cs := #[.bool true]) rfl KX.out (by kernel_rfl) (by simp) (by simp [Value.oneCell']) (D := msR ⟨kind, frm, dst, (id1, id2), z2, z2, [], false, [], false, z2, (true, z2, []), [], []⟩ ⟨.slice none 0 0, .slice none 0 0, .slice none 0 0, .slice none 0 0, .slice none 0 0⟩) rfl ?_; intro wx h1 h2; have KN := Lib.hid h1; have GN := Lib.hid h2; clear h1 h2))
            go_meet
            exact ⟨rfl, ⟨kind, frm, dst, (id1, id2), z2, z2, [], false, [], false, z2, (true, z2, []), [], []⟩, ⟨.slice none 0 0, .slice none 0 0, .slice none 0 0, .slice none 0 0, .slice none 0 0⟩, KN.out, ⟨slG_nil9 _ _, dlV_nil9 _, dlV_nil9 _, slG_nil9 _ _, slG_nil9 _ _⟩, ⟨by simp, fewV_nil, fewV_nil, by simp, by simp⟩, rfl, plain_bad HROW.out (by simp [bareB, z2, val0]), (grown_other9 KIQ.out GN.out (lt_of_block KIQ.out) (by have := LTI.out; omega)), (below_grown9 HBQ.out GN.out (Nat.le_of_lt LTI.out))⟩
           ·have b7 : (which == 7) = false := by simpa using h7
            by_cases h8 : which = 8
            ·subst h8
             have hA : Below wq.heap.size wq (wq.alloc (.cells #[.string ⟨#[97]⟩, .int .u64 0, .bool false] 101)) := blAlloc (Below.refl _ _) _
             have KXA := Lib.hid ((hA.block w2.heap.size (lt_of_block KX.out)).trans KX.out)
             have KIA := Lib.hid ((hA.block W.heap.size (lt_of_block KIQ.out)).trans KIQ.out)
             have KEA : Hid ((wq.alloc (.cells #[.string ⟨#[97]⟩, .int .u64 0, .bool false] 101)).heap[wq.heap.size]? = some (.cells #[.string ⟨#[97]⟩, .int .u64 0, .bool false] 101 (0, 0))) := Lib.hid (new_blockC wq _ _)
             have HBA : Hid (Below W.heap.size W (wq.alloc (.cells #[.string ⟨#[97]⟩, .int .u64 0, .bool false] 101))) := Lib.hid (blThen HBQ.out hA)
             have LXQ : Hid (w2.heap.size < wq.heap.size) := Lib.hid (lt_of_block KX.out)
             clear hA
             go_wp2_with (first | go_skip | ((with_reducible refine atW (wq.alloc (.cells #[.string ⟨#[97]⟩, .int .u64 0, .bool false] 101)) ?_); refine wpList_store_part _ _ _ rfl (by rfl) _ 19 rfl rfl (cs := #[.slice (some ⟨wq.heap.size, 0, none⟩) 1 1]) rfl KXA.out (by kernel_rfl) (by simp) (by simp [Value.oneCell']) (D := msR ⟨kind, frm, dst, (id1, id2), z2, z2, [], false, [], false, z2, val0, [(⟨#[97]⟩, 0, false)], []⟩ ⟨.slice none 0 0, .slice none 0 0, .slice none 0 0, .slice (some ⟨wq.heap.size, 0, none⟩) 1 1, .slice none 0 0⟩) rfl ?_; intro wx h1 h2; have KN := Lib.hid h1; have GN := Lib.hid h2; clear h1 h2))
             have KE := Lib.hid (grown_other9 KEA.out GN.out (lt_of_block KEA.out) (by have := LXQ.out; omega))
             go_meet
             exact ⟨rfl, ⟨kind, frm, dst, (id1, id2), z2, z2, [], false, [], false, z2, val0, [(⟨#[97]⟩, 0, false)], []⟩, ⟨.slice none 0 0, .slice none 0 0, .slice none 0 0, .slice (some ⟨wq.heap.size, 0, none⟩) 1 1, .slice none 0 0⟩, KN.out, ⟨slG_nil9 _ _, dlV_nil9 _, dlV_nil9 _, slG_block (E := eW) KE.out [((⟨#[97]⟩ : ByteArray), 0, false)] rfl 1 rfl, slG_nil9 _ _⟩, ⟨by simp, fewV_nil, fewV_nil, by simp, by simp⟩, rfl, plain_bad HROW.out (by simp [bareB, z2, val0]), (grown_other9 KIA.out GN.out (lt_of_block KIA.out) (by have := LTI.out; omega)), (below_grown9 HBA.out GN.out (Nat.le_of_lt LTI.out))⟩
            ·have b8 : (which == 8) = false := by simpa using h8
             by_cases h9 : which = 9
             ·subst h9
              have hA : Below wq.heap.size wq (wq.alloc (.cells #[.string ⟨#[97]⟩, .int .u64 0] 103)) := blAlloc (Below.refl _ _) _
              have KXA := Lib.hid ((hA.block w2.heap.size (lt_of_block KX.out)).trans KX.out)
              have KIA := Lib.hid ((hA.block W.heap.size (lt_of_block KIQ.out)).trans KIQ.out)
              have KEA : Hid ((wq.alloc (.cells #[.string ⟨#[97]⟩, .int .u64 0] 103)).heap[wq.heap.size]? = some (.cells #[.string ⟨#[97]⟩, .int .u64 0] 103 (0, 0))) := Lib.hid (new_blockC wq _ _)
              have HBA : Hid (Below W.heap.size W (wq.alloc (.cells #[.string ⟨#[97]⟩, .int .u64 0] 103))) := Lib.hid (blThen HBQ.out hA)
              have LXQ : Hid (w2.heap.size < wq.heap.size) := Lib.hid (lt_of_block KX.out)
              clear hA
              go_wp2_with (first | go_skip | ((with_reducible refine atW (wq.alloc (.cells #[.string ⟨#[97]⟩, .int .u64 0] 103)) ?_); refine wpList_store_part _ _ _ rfl (by rfl) _ 20 rfl rfl (cs := #[.slice (some ⟨wq.heap.size, 0, none⟩) 1 1]) rfl KXA.out (by kernel_rfl) (by simp) (by simp [Value.oneCell']) (D := msR ⟨kind, frm, dst, (id1, id2), z2, z2, [], false, [], false, z2, val0, [], [(⟨#[97]⟩, 0)]⟩ ⟨.slice none 0 0, .slice none 0 0, .slice none 0 0, .slice none 0 0, .slice (some ⟨wq.heap.size, 0, none⟩) 1 1⟩) rfl ?_; intro wx h1 h2; have KN := Lib.hid h1; have GN := Lib.hid h2; clear h1 h2))
              have KE := Lib.hid (grown_other9 KEA.out GN.out (lt_of_block KEA.out) (by have := LXQ.out; omega))
              go_meet
              exact ⟨rfl, ⟨kind, frm, dst, (id1, id2), z2, z2, [], false, [], false, z2, val0, [], [(⟨#[97]⟩, 0)]⟩, ⟨.slice none 0 0, .slice none 0 0, .slice none 0 0, .slice none 0 0, .slice (some ⟨wq.heap.size, 0, none⟩) 1 1⟩, KN.out, ⟨slG_nil9 _ _, dlV_nil9 _, dlV_nil9 _, slG_nil9 _ _, slG_block (E := eP) KE.out [((⟨#[97]⟩ : ByteArray), 0)] rfl 1 rfl⟩, ⟨by simp, fewV_nil, fewV_nil, by simp, by simp⟩, rfl, plain_bad HROW.out (by simp [bareB, z2, val0]), (grown_other9 KIA.out GN.out (lt_of_block KIA.out) (by have := LTI.out; omega)), (below_grown9 HBA.out GN.out (Nat.le_of_lt LTI.out))⟩
             ·have b9 : (which == 9) = false := by simpa using h9
              go_wp2_with (first | go_skip | (go_at_call 52; go_must (refine (live13_any _).mono ?_; rintro e wl ⟨rfl, h5⟩; have HBL : Hid (Below W.heap.size W wl) := Lib.hid (blThen HBQ.out h5); clear h5)))
              go_ret
              exact ⟨rfl, HBL.out⟩
   case rest =>
    obtain ⟨e13, xm, xl, kx, hm, hf, hxk, hx, ki, hb⟩ := hcut
    rename World => wr
    rw [e13]
    clear e13
    have KR := Lib.hid kx
    have HXM := Lib.hid hm
    have HBR := Lib.hid hb
    have HXC := Lib.hid (fun (Y : World) (hY : Below wr.heap.size wr Y) => check13_any xm xl Y (hm.later hY) hf (by rw [hxk]; exact hw))
    rw [hx] at HXC
    have c0 := cell_row ki 0 _ rfl
    have c1 := cell_row ki 1 _ rfl
    clear kx hm hf hxk hx ki hb
    go_upto_region 29 with fail
    go_cut [15] from 82 to 115 (fun s15 wx => s15 = .bool (rightB frm dst id1 id2) ∧ wx = wr)
    case first =>
     by_cases q0 : 1 ≤ frm
     ·have g0 : decide (1 ≤ frm) = true := decide_eq_true q0
      by_cases q1 : frm ≤ 7
      ·have g1 : decide (frm ≤ 7) = true := decide_eq_true q1
       by_cases q2 : 1 ≤ dst
       ·have g2 : decide (1 ≤ dst) = true := decide_eq_true q2
        by_cases q3 : dst ≤ 7
        ·have g3 : decide (dst ≤ 7) = true := decide_eq_true q3
         by_cases q4 : 1 ≤ id1
         ·have g4 : decide (1 ≤ id1) = true := decide_eq_true q4
          by_cases q5 : id1 ≤ 1099511627776
          ·have g5 : decide (id1 ≤ 1099511627776) = true := decide_eq_true q5
           by_cases q6 : 1 ≤ id2
           ·have g6 : decide (1 ≤ id2) = true := decide_eq_true q6
            by_cases q7 : id2 ≤ 7
            ·have g7 : decide (id2 ≤ 7) = true := decide_eq_true q7
             have hv : rightB frm dst id1 id2 = true := by unfold rightB; simp only [g0, g1, g2, g3, g4, g5, g6, g7, Bool.and_self]
             have HV := Lib.hid hv
             clear hv
             go_wp2
             go_meet
             exact ⟨congrArg Value.bool HV.out.symm, rfl⟩
            ·have g7 : decide (id2 ≤ 7) = false := decide_eq_false q7
             have hv : rightB frm dst id1 id2 = false := by unfold rightB; simp only [g0, g1, g2, g3, g4, g5, g6, g7, Bool.and_false, Bool.false_and, Bool.and_self]
             have HV := Lib.hid hv
             clear hv
             go_wp2
             go_meet
             exact ⟨congrArg Value.bool HV.out.symm, rfl⟩
           ·have g6 : decide (1 ≤ id2) = false := decide_eq_false q6
            have hv : rightB frm dst id1 id2 = false := by unfold rightB; simp only [g0, g1, g2, g3, g4, g5, g6, Bool.and_false, Bool.false_and, Bool.and_self]
            have HV := Lib.hid hv
            clear hv
            go_wp2
            go_meet
            exact ⟨congrArg Value.bool HV.out.symm, rfl⟩
          ·have g5 : decide (id1 ≤ 1099511627776) = false := decide_eq_false q5
           have hv : rightB frm dst id1 id2 = false := by unfold rightB; simp only [g0, g1, g2, g3, g4, g5, Bool.and_false, Bool.false_and, Bool.and_self]
           have HV := Lib.hid hv
           clear hv
           go_wp2
           go_meet
           exact ⟨congrArg Value.bool HV.out.symm, rfl⟩
         ·have g4 : decide (1 ≤ id1) = false := decide_eq_false q4
          have hv : rightB frm dst id1 id2 = false := by unfold rightB; simp only [g0, g1, g2, g3, g4, Bool.and_false, Bool.false_and, Bool.and_self]
          have HV := Lib.hid hv
          clear hv
          go_wp2
          go_meet
          exact ⟨congrArg Value.bool HV.out.symm, rfl⟩
        ·have g3 : decide (dst ≤ 7) = false := decide_eq_false q3
         have hv : rightB frm dst id1 id2 = false := by unfold rightB; simp only [g0, g1, g2, g3, Bool.and_false, Bool.false_and, Bool.and_self]
         have HV := Lib.hid hv
         clear hv
         go_wp2
         go_meet
         exact ⟨congrArg Value.bool HV.out.symm, rfl⟩
       ·have g2 : decide (1 ≤ dst) = false := decide_eq_false q2
        have hv : rightB frm dst id1 id2 = false := by unfold rightB; simp only [g0, g1, g2, Bool.and_false, Bool.false_and, Bool.and_self]
        have HV := Lib.hid hv
        clear hv
        go_wp2
        go_meet
        exact ⟨congrArg Value.bool HV.out.symm, rfl⟩
      ·have g1 : decide (frm ≤ 7) = false := decide_eq_false q1
       have hv : rightB frm dst id1 id2 = false := by unfold rightB; simp only [g0, g1, Bool.and_false, Bool.false_and, Bool.and_self]
       have HV := Lib.hid hv
       clear hv
       go_wp2
       go_meet
       exact ⟨congrArg Value.bool HV.out.symm, rfl⟩
     ·have g0 : decide (1 ≤ frm) = false := decide_eq_false q0
      have hv : rightB frm dst id1 id2 = false := by unfold rightB; simp only [g0, Bool.and_false, Bool.false_and, Bool.and_self]
      have HV := Lib.hid hv
      clear hv
      go_wp2
      go_meet
      exact ⟨congrArg Value.bool HV.out.symm, rfl⟩
    case rest =>
     obtain ⟨e15, e16⟩ := hcut
     rw [e15, e16]
     clear e15 e16 c0 c1
     generalize rightB frm dst id1 id2 = rb at *
     go_wp2_with (first | go_skip | ((with_reducible refine atW wr ?_); refine loadM _ rfl rfl _ rfl KR.out rfl ?_) | (go_at_call 58; go_must (refine (HXC.out _ (Below.refl _ _)).mono ?_; rintro e wc ⟨rfl, h5⟩; have HBC : Hid (Below W.heap.size W wc) := Lib.hid (blThen HBR.out h5); clear h5)) | (go_at_call 57; go_must (refine (num13_any _ _).mono ?_; rintro e wn ⟨rfl, rfl⟩)) | (go_at_call 52; go_must (refine (live13_any _).mono ?_; rintro e wl ⟨rfl, h5⟩; have HBL : Hid (Below W.heap.size W wl) := Lib.hid (blThen HBC.out h5); clear h5)))
     go_ret
     exact ⟨rfl, HBL.out⟩
 ·have n13 : (kind != 13) = true := by simp; omega
  have n16 : (kind != 16) = true := by simp; omega
  have n17 : (kind != 17) = true := by simp; omega
  go_enter Tryz.func12, Tryz.ntmps12
  go_wp2_with (first | go_skip | (go_at_call 52; go_must (refine (live13_any _).mono ?_; rintro e wl ⟨rfl, h5⟩; have HBL : Hid (Below W.heap.size W wl) := Lib.hid (blThen (blAlloc (Below.refl _ _) _) h5); clear h5)))
  go_ret
  exact ⟨rfl, HBL.out⟩

section
variable {H : Type} {enc : TypeId × Value → H} {P : Program} {w : World} {base : Nat} {spare : TypeId → Bool} {held : Bool}
theorem trodAll_five13 {t0 t1 t2 t3 t4 : TypeId} {args : Array Value} {ds : List (DataW H)} {ps : List MemPlace} (h : DataW.TrodAll enc P w base spare held [t0, t1, t2, t3, t4] args.toList ds ps) :
  ∃ v0 v1 v2 v3 v4 d0 d1 d2 d3 d4 p0 p1 p2 p3 p4, args = #[v0, v1, v2, v3, v4] ∧ ds = [d0, d1, d2, d3, d4] ∧ ps = p0 ++ p1 ++ p2 ++ p3 ++ p4 ∧ DataW.Trod enc P w base spare held t0 v0 d0 p0 ∧ DataW.Trod enc P w base spare held t1 v1 d1 p1 ∧ DataW.Trod enc P w base spare held t2 v2 d2 p2 ∧ DataW.Trod enc P w base spare held t3 v3 d3 p3 ∧ DataW.Trod enc P w base spare held t4 v4 d4 p4 := by
 obtain ⟨v0, vs0, d0, ds0, p0, q0, hargs, rfl, rfl, h0, r0⟩ := trodAll_cons h
 obtain ⟨v1, vs1, d1, ds1, p1, q1, rfl, rfl, rfl, h1, r1⟩ := trodAll_cons r0
 obtain ⟨v2, vs2, d2, ds2, p2, q2, rfl, rfl, rfl, h2, r2⟩ := trodAll_cons r1
 obtain ⟨v3, vs3, d3, ds3, p3, q3, rfl, rfl, rfl, h3, r3⟩ := trodAll_cons r2
 obtain ⟨v4, vs4, d4, ds4, p4, q4, rfl, rfl, rfl, h4, r4⟩ := trodAll_cons r3
 obtain ⟨rfl, rfl, rfl⟩ := trodAll_nil r4
 exact ⟨v0, v1, v2, v3, v4, d0, d1, d2, d3, d4, p0, p1, p2, p3, p4, by cases args; simp_all, rfl, by simp, h0, h1, h2, h3, h4⟩
end
theorem wirePlain_lifted (os : Os) (started : os.Started) (H : Type) (enc : TypeId × Value → H) :
  ReturnsInHanded {} Tryz.checked os 12 .any (Rows.wirePlainSpec.pre6 enc Tryz.prog Tryz.f12 Rows.wirePlainRow.domain false) (Rows.wirePlainSpec.post enc Tryz.prog Tryz.f12 false true false false) := by
 refine law_lift_sized (C := Tryz.checked) own0 started (by kernel_rfl) Tryz.func12 laid0 rfl (by kernel_rfl) (fun _ _ _ _ => trodAll_mk1 (shut_bool Tryz.underlying4 true)) (fun ds h => match ds, h with | [_, _, _, _, _], _ => ⟨rfl, rfl, rfl⟩)
  (ChangeSpec.witness6 (enc := enc) (C := Tryz.checked) false ⟨#[], #[.int .i64 0, .int .i64 0, .int .i64 0, .agg #[.int .i64 0, .int .i64 0], .int .i64 0], []⟩ 8 (by kernel_rfl) (by kernel_rfl) (by kernel_rfl) (by kernel_rfl)) ?_
 intro W base args ds before hval0 hA0 hlt hsz
 have hval : ∀ (j : Nat) t v, Tryz.f12.params[j]? = some t → args[j]? = some v → Value.okWide Tryz.prog W .any base t v := hval0
 have hA : DataW.TrodAll enc Tryz.prog W 0 (fun _ => true) true Tryz.f12.params.toList args.toList ds before := hA0
 rw [Tryz.params12] at hA hval
 obtain ⟨v0, v1, v2, v3, v4, d0, d1, d2, d3, d4, p0, p1, p2, p3, p4, rfl, rfl, rfl, h0, h1, h2, h3, h4⟩ := trodAll_five13 hA
 obtain ⟨kind, rfl, rfl, rfl, wkind⟩ := open_int Tryz.underlying3 (hval 0 3 v0 rfl rfl) h0
 obtain ⟨frm, rfl, rfl, rfl, wfrm⟩ := open_int Tryz.underlying3 (hval 1 3 v1 rfl rfl) h1
 obtain ⟨dst, rfl, rfl, rfl, wdst⟩ := open_int Tryz.underlying3 (hval 2 3 v2 rfl rfl) h2
 obtain ⟨i1, i2, rfl, _, _⟩ := S1.open_stamp (hval 3 23 v3 rfl rfl) h3
 obtain ⟨which, rfl, rfl, rfl, wwhich⟩ := open_int Tryz.underlying3 (hval 4 3 v4 rfl rfl) h4
 exact wirePlain_walk kind frm dst which (i1, i2) W wkind
theorem wirePlain_f_inPlace : (Rows.wirePlainRow.inPlace == Tryz.prog.inPlace 12) = true := by kernel_rfl
theorem wirePlain_f_unfollowed : (Rows.wirePlainRow.unfollowed == Tryz.prog.unfollowed 12) = true := by kernel_rfl
theorem wirePlain_f_recurses : (Rows.wirePlainRow.recurses == Tryz.prog.recurses 12) = true := by kernel_rfl
theorem wirePlain_f_named : (Rows.wirePlainRow.named == Tryz.prog.varsNamed 12) = true := by kernel_rfl
theorem wirePlain_laid : laidOutB Tryz.prog = true := by kernel_rfl
theorem wirePlain_rowed : mapsRowed Tryz.prog = true := by kernel_rfl
theorem wirePlain_closed : joinedFacts Tryz.prog 12 Tryz.f12 Rows.wirePlainSpec Rows.wirePlainRow = true := by
 unfold joinedFacts
 rw [wirePlain_laid, wirePlain_rowed, wirePlain_f_inPlace, wirePlain_f_unfollowed, wirePlain_f_recurses, wirePlain_f_named]
 kernel_rfl
theorem wirePlain_holds : Rows.WirePlainSaid :=
 OpenClaim.holds_of_wide 12 Tryz.f12 rfl rfl rfl rfl rfl rfl rfl ⟨rfl, rfl, rfl, rfl, rfl⟩ rfl rfl rfl rfl rfl (by kernel_rfl) Tryz.func12 wirePlain_closed
  (of_decide_eq_true (by kernel_rfl)) (by unfold Func.isWrapper; rw [if_neg (of_decide_eq_false (by kernel_rfl))]; exact ⟨rfl, rfl⟩)
  (fun os started H enc _ => wirePlain_lifted os started H enc)
#print axioms wirePlain_holds
end SI
end Go.Proofs.YtmpbpeelankihaaGreat
