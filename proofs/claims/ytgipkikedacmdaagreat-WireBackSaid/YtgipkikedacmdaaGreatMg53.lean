/- What was read out of bytes is of the size of these; of bytes of which one is another one, that are cut off, or longer, there is no message. No program is named. Conditions: at most fifty thousand bytes. -/
import Derived.Deep.RegionLaw
import Derived.Deep.CutRange
import Derived.Lib.OthersKept
import Derived.WalkSpells
import Derived.Deep.RegionHeld3
import Derived.Test.YtgipkikedacmdaaGreatMg52
import Derived.Test.YtgipkikedacmdaaGreatMg51
set_option maxRecDepth 100000
set_option maxHeartbeats 16000000
set_option linter.unusedVariables false
set_option linter.unusedSimpArgs false
namespace Go.Proofs.YtgipkikedacmdaaGreat
open S3 SC SN SP
namespace SI
open Go.ChangeShapes Go.WideShapes Go.ChangeAt Go.RowKit Go.Joins Go.Deep
def msR (m : Mg) (l : PlM) : Array Value := #[.int .i64 m.kind, .int .i64 m.frm, .int .i64 m.dst, .int .i64 m.id.1, .int .i64 m.id.2, .int .i64 m.bal.1, .int .i64 m.bal.2, .int .i64 m.at_.1, .int .i64 m.at_.2, l.o, .bool m.fast, l.d, .bool m.has, .int .i64 m.acc.1, .int .i64 m.acc.2, .bool m.val.1, .int .i64 m.val.2.1.1, .int .i64 m.val.2.1.2, l.v, l.w, l.p]
theorem ms_one {W : World} {m : Mg} {l : PlM} (h : MsAt W m l) : (msR m l).all (·.oneCell') = true := by
 have ho := slG_one h.o
 have hs := dlV_one h.d
 have hd := dlV_one h.v
 have hw := slG_one h.w
 have hp := slG_one h.p
 unfold msR
 simp [Value.oneCell']
 exact ⟨ho, hs, hd, hw, hp⟩
def letB (c : Int) : Bool := decide (c = 97) || decide (c = 65) || decide (c = 98) || decide (c = 66) || decide (c = 100) || decide (c = 104) || decide (c = 111) || decide (c = 103) || decide (c = 79) || decide (c = 112) || decide (c = 118) || decide (c = 86) || decide (c = 119) || decide (c = 102)
theorem let_or {c : Int} (h : letB c = true) : c = 97 ∨ c = 65 ∨ c = 98 ∨ c = 66 ∨ c = 100 ∨ c = 104 ∨ c = 111 ∨ c = 103 ∨ c = 79 ∨ c = 112 ∨ c = 118 ∨ c = 86 ∨ c = 119 ∨ c = 102 := by
 unfold letB at h
 simpa only [Bool.or_eq_true, decide_eq_true_eq, or_assoc] using h
structure RowOk (s : ByteArray) (L : List Int) : Prop where
 len : L.length = s.size
 at_ : ∀ i, (h : i < s.size) → L[i]? = some (((s[i]'h).toNat : Nat) : Int) ∧ (s[i]'h).toNat < 128 ∧ letB (((s[i]'h).toNat : Nat) : Int) = true
theorem row_ok {k : Int} {L : List Int} (h : rowOf k = some L) : RowOk (strOf k) L := by
 by_cases h1 : k = 1
 ·subst h1
  have e : rowOf 1 = some [111] := rfl
  rw [e] at h
  cases h
  have e2 : strOf 1 = ⟨#[111]⟩ := rfl
  rw [e2]
  exact ⟨rfl, by decide +kernel⟩
 by_cases h2 : k = 2
 ·subst h2
  have e : rowOf 2 = some [97, 102, 100] := rfl
  rw [e] at h
  cases h
  have e2 : strOf 2 = ⟨#[97, 102, 100]⟩ := rfl
  rw [e2]
  exact ⟨rfl, by decide +kernel⟩
 by_cases h3 : k = 3
 ·subst h3
  have e : rowOf 3 = some [98, 97, 111] := rfl
  rw [e] at h
  cases h
  have e2 : strOf 3 = ⟨#[98, 97, 111]⟩ := rfl
  rw [e2]
  exact ⟨rfl, by decide +kernel⟩
 by_cases h4 : k = 4
 ·subst h4
  have e : rowOf 4 = some [98, 100] := rfl
  rw [e] at h
  cases h
  have e2 : strOf 4 = ⟨#[98, 100]⟩ := rfl
  rw [e2]
  exact ⟨rfl, by decide +kernel⟩
 by_cases h5 : k = 5
 ·subst h5
  have e : rowOf 5 = some [98, 118, 103] := rfl
  rw [e] at h
  cases h
  have e2 : strOf 5 = ⟨#[98, 118, 103]⟩ := rfl
  rw [e2]
  exact ⟨rfl, by decide +kernel⟩
 by_cases h6 : k = 6
 ·subst h6
  have e : rowOf 6 = some [98] := rfl
  rw [e] at h
  cases h
  have e2 : strOf 6 = ⟨#[98]⟩ := rfl
  rw [e2]
  exact ⟨rfl, by decide +kernel⟩
 by_cases h14 : k = 14
 ·subst h14
  have e : rowOf 14 = some [98] := rfl
  rw [e] at h
  cases h
  have e2 : strOf 14 = ⟨#[98]⟩ := rfl
  rw [e2]
  exact ⟨rfl, by decide +kernel⟩
 by_cases h7 : k = 7
 ·subst h7
  have e : rowOf 7 = some [118, 103] := rfl
  rw [e] at h
  cases h
  have e2 : strOf 7 = ⟨#[118, 103]⟩ := rfl
  rw [e2]
  exact ⟨rfl, by decide +kernel⟩
 by_cases h15 : k = 15
 ·subst h15
  have e : rowOf 15 = some [118, 103] := rfl
  rw [e] at h
  cases h
  have e2 : strOf 15 = ⟨#[118, 103]⟩ := rfl
  rw [e2]
  exact ⟨rfl, by decide +kernel⟩
 by_cases h8 : k = 8
 ·subst h8
  have e : rowOf 8 = some [66, 79] := rfl
  rw [e] at h
  cases h
  have e2 : strOf 8 = ⟨#[66, 79]⟩ := rfl
  rw [e2]
  exact ⟨rfl, by decide +kernel⟩
 by_cases h9 : k = 9
 ·subst h9
  have e : rowOf 9 = some [66, 79, 65, 102, 100, 104] := rfl
  rw [e] at h
  cases h
  have e2 : strOf 9 = ⟨#[66, 79, 65, 102, 100, 104]⟩ := rfl
  rw [e2]
  exact ⟨rfl, by decide +kernel⟩
 by_cases h10 : k = 10
 ·subst h10
  have e : rowOf 10 = some [86, 111] := rfl
  rw [e] at h
  cases h
  have e2 : strOf 10 = ⟨#[86, 111]⟩ := rfl
  rw [e2]
  exact ⟨rfl, by decide +kernel⟩
 by_cases h11 : k = 11
 ·subst h11
  have e : rowOf 11 = some [112] := rfl
  rw [e] at h
  cases h
  have e2 : strOf 11 = ⟨#[112]⟩ := rfl
  rw [e2]
  exact ⟨rfl, by decide +kernel⟩
 by_cases h12 : k = 12
 ·subst h12
  have e : rowOf 12 = some [86, 111, 119] := rfl
  rw [e] at h
  cases h
  have e2 : strOf 12 = ⟨#[86, 111, 119]⟩ := rfl
  rw [e2]
  exact ⟨rfl, by decide +kernel⟩
 by_cases h13 : k = 13
 ·subst h13
  have e : rowOf 13 = some [] := rfl
  rw [e] at h
  cases h
  have e2 : strOf 13 = ⟨#[]⟩ := rfl
  rw [e2]
  exact ⟨rfl, by decide +kernel⟩
 by_cases h16 : k = 16
 ·subst h16
  have e : rowOf 16 = some [] := rfl
  rw [e] at h
  cases h
  have e2 : strOf 16 = ⟨#[]⟩ := rfl
  rw [e2]
  exact ⟨rfl, by decide +kernel⟩
 by_cases h17 : k = 17
 ·subst h17
  have e : rowOf 17 = some [] := rfl
  rw [e] at h
  cases h
  have e2 : strOf 17 = ⟨#[]⟩ := rfl
  rw [e2]
  exact ⟨rfl, by decide +kernel⟩
 exfalso
 unfold rowOf at h
 rw [if_neg h1, if_neg h2, if_neg h3, if_neg h4, if_neg h5, if_neg h6, if_neg h14, if_neg h7, if_neg h15, if_neg h8, if_neg h9, if_neg h10, if_neg h11, if_neg h12, if_neg h13, if_neg h16, if_neg h17] at h
 cases h
theorem lt_al (W : World) (a : Obj) : W.heap.size < (W.alloc a).heap.size := by simp
theorem few_less {m : Mg} (h : FewM m) (c : Int) : FewM (lessM m c) := by
 have hn : FewV [] := ⟨by simp, by decide⟩
 unfold lessM
 by_cases e0 : c = 97 ∨ c = 65
 ·rw [if_pos e0]
  exact ⟨h.ops, h.deps, h.vdeps, h.writes, h.pairs⟩
 rw [if_neg e0]
 by_cases e1 : c = 98 ∨ c = 66
 ·rw [if_pos e1]
  exact ⟨h.ops, h.deps, h.vdeps, h.writes, h.pairs⟩
 rw [if_neg e1]
 by_cases e2 : c = 100
 ·rw [if_pos e2]
  exact ⟨h.ops, hn, h.vdeps, h.writes, h.pairs⟩
 rw [if_neg e2]
 by_cases e3 : c = 102
 ·rw [if_pos e3]
  exact ⟨h.ops, h.deps, h.vdeps, h.writes, h.pairs⟩
 rw [if_neg e3]
 by_cases e4 : c = 104
 ·rw [if_pos e4]
  exact ⟨h.ops, h.deps, hn, h.writes, h.pairs⟩
 rw [if_neg e4]
 by_cases e5 : c = 111 ∨ c = 103 ∨ c = 79
 ·rw [if_pos e5]
  exact ⟨(by simp), h.deps, h.vdeps, h.writes, h.pairs⟩
 rw [if_neg e5]
 by_cases e6 : c = 112
 ·rw [if_pos e6]
  exact ⟨h.ops, h.deps, h.vdeps, h.writes, (by simp)⟩
 rw [if_neg e6]
 by_cases e7 : c = 118 ∨ c = 86
 ·rw [if_pos e7]
  exact ⟨h.ops, h.deps, hn, h.writes, h.pairs⟩
 rw [if_neg e7]
 by_cases e8 : c = 119
 ·rw [if_pos e8]
  exact ⟨h.ops, h.deps, h.vdeps, (by simp), h.pairs⟩
 rw [if_neg e8]
 exact h
theorem few_fold : ∀ (L : List Int) (m : Mg), FewM m → FewM (L.foldl lessM m)
 | [], m, h => h
 | c :: L, m, h => few_fold L _ (few_less h c)
theorem all_take {L : List Int} {k : Nat} {c : Int} {p : Int → Bool} (h : L[k]? = some c) (hp : p c = true) (ha : (L.take k).all p = true) : (L.take (k + 1)).all p = true := by
 rw [List.take_add_one, h, List.all_append, ha]
 simp [hp]
theorem all_bad {L : List Int} {k : Nat} {c : Int} {p : Int → Bool} (h : L[k]? = some c) (hp : p c = false) : L.all p = false := by
 cases ha : L.all p
 ·rfl
 ·rw [List.all_eq_true.1 ha c (List.mem_of_getElem? h)] at hp
  cases hp
theorem fold_take {L : List Int} {k : Nat} {c : Int} {m : Mg} (h : L[k]? = some c) : (L.take (k + 1)).foldl lessM m = lessM ((L.take k).foldl lessM m) c := by
 rw [List.take_add_one, h, List.foldl_append]
 rfl
theorem fits_any9 (m : Mg) (l : PlM) (c : Int) (W : World) (h : MsAt W m l) (hf : FewM m) (hc : letB c = true) : Calls Tryz.prog 114 #[msV m l, .int .i32 c] W fun e w' => e = .returned (.bool (fitsB m c)) ∧ Below W.heap.size W w' := fits_any m l c W h hf (let_or hc)
theorem without_any9 (m : Mg) (l : PlM) (c : Int) (W0 W : World) (h : MsAt W0 m l) (hc : letB c = true) : Calls Tryz.prog 115 #[.agg (msR m l), .int .i32 c] W fun e w' => ∃ l, e = .returned (.agg (msR (lessM m c) l)) ∧ MsAt W0 (lessM m c) l ∧ Below W.heap.size W w' := without_any m l c W0 W h (by have := let_or hc; omega)
theorem bare_any9 (m : Mg) (l : PlM) (W : World) (h : MsAt W m l) (hf : FewM m) : Calls Tryz.prog 116 #[.agg (msR m l)] W fun e w' => e = .returned (.bool (bareB m)) ∧ Below W.heap.size W w' := bare_any m l W h hf
theorem check13_any (m : Mg) (l : PlM) (W : World) (h : MsAt W m l) (hf : FewM m) (hw : (Lit.int .i64 m.kind).wf = true) : Calls Tryz.prog 38 #[msV m l] W fun e w' => e = .returned (.int .i64 (checkM m)) ∧ Below W.heap.size W w' := by
 have HAT := Lib.hid h
 have HF := Lib.hid hf
 obtain ⟨bo, hbo⟩ : ∃ x, (rowOf m.kind).isSome = x := ⟨_, rfl⟩
 obtain ⟨sk, hsk⟩ : ∃ x, strOf m.kind = x := ⟨_, rfl⟩
 have HRUN := Lib.hid (fun (Y : World) (b : Nat) (hr : RowsAt Y b) => rows_run hr hw)
 rw [hbo, hsk] at HRUN
 have HBO := Lib.hid hbo
 have HSK := Lib.hid hsk
 clear hbo hsk
 have HNO : Hid (bo = false → checkM m = 130) := Lib.hid (fun e => by
  rw [← HBO.out] at e
  unfold checkM checkMB
  cases hr : rowOf m.kind with
  | none => rfl
  | some L => rw [hr] at e; cases e)
 have HYES : Hid (∀ L, rowOf m.kind = some L → checkM m = if (nodeB m.frm && nodeB m.dst && S1.isS m.id && L.all (fitsB m) && bareB (L.foldl lessM m)) = true then 0 else 130) := Lib.hid (fun L e => by
  unfold checkM checkMB
  rw [e])
 generalize hv : checkM m = v at *
 clear hv
 obtain ⟨kind, frm, dst, ⟨id1, id2⟩, ⟨b1, b2⟩, ⟨a1, a2⟩, ops, fast, deps, has, ⟨q1, q2⟩, ⟨gone, ⟨t1, t2⟩, vdeps⟩, writes, pairs⟩ := m
 obtain ⟨lo, ld, lv, lw, lp⟩ := l
 simp only [msV]
 have HC := Lib.hid (cell_box W #[.int .i64 kind, .int .i64 frm, .int .i64 dst, .int .i64 id1, .int .i64 id2, .int .i64 b1, .int .i64 b2, .int .i64 a1, .int .i64 a2, lo, .bool fast, ld, .bool has, .int .i64 q1, .int .i64 q2, .bool gone, .int .i64 t1, .int .i64 t2, lv, lw, lp] 61)
 have HR := Lib.hid (row_box W #[.int .i64 kind, .int .i64 frm, .int .i64 dst, .int .i64 id1, .int .i64 id2, .int .i64 b1, .int .i64 b2, .int .i64 a1, .int .i64 a2, lo, .bool fast, ld, .bool has, .int .i64 q1, .int .i64 q2, .bool gone, .int .i64 t1, .int .i64 t2, lv, lw, lp] 61)
 have KL0 := Lib.hid (new_blockC W #[.int .i64 kind, .int .i64 frm, .int .i64 dst, .int .i64 id1, .int .i64 id2, .int .i64 b1, .int .i64 b2, .int .i64 a1, .int .i64 a2, lo, .bool fast, ld, .bool has, .int .i64 q1, .int .i64 q2, .bool gone, .int .i64 t1, .int .i64 t2, lv, lw, lp] 61)
 simp only at HBO HSK HNO HYES
 go_enter Tryz.func38, Tryz.ntmps38
 go_upto_region 1 with fail
 go_cut [3, 4] from 9 to 14 (fun s3 s4 wx => ∃ b3 : Nat, s3 = .pointer (some ⟨b3, 0, none⟩) ∧ s4 = .bool bo ∧ b3 < wx.heap.size ∧ wx.heap[b3]? = some (.cells #[.string sk] 151 (0, 0)) ∧ wx.heap[W.heap.size]? = some (.cells #[.int .i64 kind, .int .i64 frm, .int .i64 dst, .int .i64 id1, .int .i64 id2, .int .i64 b1, .int .i64 b2, .int .i64 a1, .int .i64 a2, lo, .bool fast, ld, .bool has, .int .i64 q1, .int .i64 q2, .bool gone, .int .i64 t1, .int .i64 t2, lv, lw, lp] 61 (0, 0)) ∧ Below W.heap.size W wx)
 case first =>
  have c0 := cell_row KL0.out 0 _ rfl
  refine wp_region_held_drew (S := fun Y => Y.cell? ⟨W.heap.size, 0, none⟩ = some (.int .i64 kind)) (by kernel_rfl) (c0) (fun hHeld => ?_)
  have dwd : (W.alloc (.cells #[.int .i64 kind, .int .i64 frm, .int .i64 dst, .int .i64 id1, .int .i64 id2, .int .i64 b1, .int .i64 b2, .int .i64 a1, .int .i64 a2, lo, .bool fast, ld, .bool has, .int .i64 q1, .int .i64 q2, .bool gone, .int .i64 t1, .int .i64 t2, lv, lw, lp] 61)).drew.cell? ⟨W.heap.size, 0, none⟩ = some (.int .i64 kind) := c0
  have Mwd : Hid ((W.alloc (.cells #[.int .i64 kind, .int .i64 frm, .int .i64 dst, .int .i64 id1, .int .i64 id2, .int .i64 b1, .int .i64 b2, .int .i64 a1, .int .i64 a2, lo, .bool fast, ld, .bool has, .int .i64 q1, .int .i64 q2, .bool gone, .int .i64 t1, .int .i64 t2, lv, lw, lp] 61)).drew.heap[W.heap.size]? = some (.cells #[.int .i64 kind, .int .i64 frm, .int .i64 dst, .int .i64 id1, .int .i64 id2, .int .i64 b1, .int .i64 b2, .int .i64 a1, .int .i64 a2, lo, .bool fast, ld, .bool has, .int .i64 q1, .int .i64 q2, .bool gone, .int .i64 t1, .int .i64 t2, lv, lw, lp] 61 (0, 0))) := KL0
  have Lwd : Hid (W.heap.size < (W.alloc (.cells #[.int .i64 kind, .int .i64 frm, .int .i64 dst, .int .i64 id1, .int .i64 id2, .int .i64 b1, .int .i64 b2, .int .i64 a1, .int .i64 a2, lo, .bool fast, ld, .bool has, .int .i64 q1, .int .i64 q2, .bool gone, .int .i64 t1, .int .i64 t2, lv, lw, lp] 61)).drew.heap.size) := Lib.hid (lt_al W _)
  have Bwd : Hid (Below W.heap.size W (W.alloc (.cells #[.int .i64 kind, .int .i64 frm, .int .i64 dst, .int .i64 id1, .int .i64 id2, .int .i64 b1, .int .i64 b2, .int .i64 a1, .int .i64 a2, lo, .bool fast, ld, .bool has, .int .i64 q1, .int .i64 q2, .bool gone, .int .i64 t1, .int .i64 t2, lv, lw, lp] 61)).drew) := Lib.hid (blAlloc (Below.refl _ _) _).drew
  clear c0 KL0 HC HR
  generalize (W.alloc (.cells #[.int .i64 kind, .int .i64 frm, .int .i64 dst, .int .i64 id1, .int .i64 id2, .int .i64 b1, .int .i64 b2, .int .i64 a1, .int .i64 a2, lo, .bool fast, ld, .bool has, .int .i64 q1, .int .i64 q2, .bool gone, .int .i64 t1, .int .i64 t2, lv, lw, lp] 61)).drew = wd at *
  refine wpAnyH_take (i := 1) (oi := ⟨_, _, _, _, _, _⟩) (v := ?_) rfl (by kernel_rfl) (by kernel_rfl) (by kernel_rfl) (fun _ _ _ h => h) (Or.inl ⟨by rfl, ?_⟩) (by assumption) ?_
  rotate_left
  ·intro w hSw
   try dsimp only at hSw
   go_simp
   try with_reducible rfl
  try simp only [Act.put, List.setIfInBounds_toArray, List.set_cons_zero, List.set_cons_succ]
  refine wpAnyH_take (i := 2) (oi := ⟨_, _, _, _, _, _⟩) (v := ?_) rfl (by kernel_rfl) (by kernel_rfl) (by kernel_rfl) (fun _ _ _ h => h) (Or.inl ⟨by rfl, ?_⟩) (by assumption) ?_
  rotate_left
  ·intro w hSw
   try dsimp only at hSw
   go_simp
   try with_reducible rfl
  try simp only [Act.put, List.setIfInBounds_toArray, List.set_cons_zero, List.set_cons_succ]
  refine wpAnyH_ready (rs := [0, 7]) (by kernel_rfl) (by simp) ?_
  refine AllReadyH.cons (o := ⟨_, _, _, _, _, _⟩) rfl (fun K hK => ?_) ?_
  ·go_simp
   go_at_call 112
   refine (rows_any _).mono ?_
   rintro e wdc ⟨b, rfl, hr, hb⟩
   have dwdc := cell_in hb Lwd.out dwd
   have Mwdc := Lib.hid ((hb.block W.heap.size Lwd.out).trans Mwd.out)
   have Lwdc : Hid (W.heap.size < wdc.heap.size) := Lib.hid (Nat.lt_of_lt_of_le Lwd.out hb.size)
   have Bwdc : Hid (Below W.heap.size W wdc) := Lib.hid (blThen Bwd.out hb)
   have HRwdc := Lib.hid hr
   clear hr hb
   refine hK.out _ _ (dwdc) (fun hHeld => ?_)
   clear hK K
   try simp only [Act.put, List.setIfInBounds_toArray, List.set_cons_zero, List.set_cons_succ]
   refine wpAnyH_ready (rs := [3, 7]) (by kernel_rfl) (by simp) ?_
   refine AllReadyH.cons (o := ⟨_, _, _, _, _, _⟩) rfl (fun K hK => ?_) ?_
   ·have ql := HRUN.out _ _ HRwdc.out
    go_simp
    clear ql
    refine hK.out _ _ (dwdc) (fun hHeld => ?_)
    clear hK K
    try simp only [Act.put, List.setIfInBounds_toArray, List.set_cons_zero, List.set_cons_succ]
    refine wpAnyH_take (i := 4) (oi := ⟨_, _, _, _, _, _⟩) (v := ?_) rfl (by kernel_rfl) (by kernel_rfl) (by kernel_rfl) (fun _ _ _ h => h) (Or.inl ⟨by rfl, ?_⟩) (by assumption) ?_
    rotate_left
    ·intro w hSw
     try dsimp only at hSw
     go_simp
     try with_reducible rfl
    try simp only [Act.put, List.setIfInBounds_toArray, List.set_cons_zero, List.set_cons_succ]
    refine wpAnyH_take (i := 5) (oi := ⟨_, _, _, _, _, _⟩) (v := ?_) rfl (by kernel_rfl) (by kernel_rfl) (by kernel_rfl) (fun _ _ _ h => h) (Or.inl ⟨by rfl, ?_⟩) (by assumption) ?_
    rotate_left
    ·intro w hSw
     try dsimp only at hSw
     go_simp
     try with_reducible rfl
    try simp only [Act.put, List.setIfInBounds_toArray, List.set_cons_zero, List.set_cons_succ]
    refine wpAnyH_take (i := 6) (oi := ⟨_, _, _, _, _, _⟩) (v := ?_) rfl (by kernel_rfl) (by kernel_rfl) (by kernel_rfl) (fun _ _ _ h => h) (Or.inl ⟨by rfl, ?_⟩) (by assumption) ?_
    rotate_left
    ·intro w hSw
     try dsimp only at hSw
     go_simp
     try with_reducible rfl
    try simp only [Act.put, List.setIfInBounds_toArray, List.set_cons_zero, List.set_cons_succ]
    refine wpAnyH_ready (rs := [7]) (by kernel_rfl) (by simp) ?_
    refine AllReadyH.cons (o := ⟨_, _, _, _, _, _⟩) rfl (fun K hK => ?_) ?_
    ·go_simp
     have hb : Below wdc.heap.size wdc (wdc.alloc (.cells #[.string ⟨#[]⟩] 151)) := blAlloc (Below.refl _ _) _
     have KZwdcz : Hid ((wdc.alloc (.cells #[.string ⟨#[]⟩] 151)).heap[wdc.heap.size]? = some (.cells #[.string ⟨#[]⟩] 151)) := Lib.hid (new_blockC _ _ _)
     have LZwdcz : Hid (wdc.heap.size < (wdc.alloc (.cells #[.string ⟨#[]⟩] 151)).heap.size) := Lib.hid (by simp)
     have HRwdcz := Lib.hid (HRwdc.out.later hb)
     obtain ⟨bz, hbz⟩ : ∃ k, k = wdc.heap.size := ⟨_, rfl⟩
     rw [← hbz] at KZwdcz LZwdcz
     have hbl : W.heap.size < bz := by rw [hbz]; exact Lwdc.out
     rw [← hbz]
     clear hbz
     generalize wdc.alloc (.cells #[.string ⟨#[]⟩] 151) = wdcz at *
     have dwdcz := cell_in hb Lwdc.out dwdc
     have Mwdcz := Lib.hid ((hb.block W.heap.size Lwdc.out).trans Mwdc.out)
     have Lwdcz : Hid (W.heap.size < wdcz.heap.size) := Lib.hid (Nat.lt_of_lt_of_le Lwdc.out hb.size)
     have Bwdcz : Hid (Below W.heap.size W wdcz) := Lib.hid (blThen Bwdc.out hb)
     clear hb
     refine hK.out _ _ (dwdcz) (fun hHeld => ?_)
     clear hK K
     try simp only [Act.put, List.setIfInBounds_toArray, List.set_cons_zero, List.set_cons_succ]
     refine wpAnyH_ready (rs := [8]) (by kernel_rfl) (by simp) ?_
     refine AllReadyH.cons (o := ⟨_, _, _, _, _, _⟩) rfl (fun K hK => ?_) ?_
     rotate_left
     ·exact AllReadyH.nil
     refine wp_store_part _ _ _ rfl _ 0 rfl rfl (cs := #[.string sk]) rfl KZwdcz.out (by kernel_rfl) (by simp) (by simp [Value.oneCell']) (D := #[.string sk]) rfl ?_
     intro w9 h1 h2
     have M9 := grown_other9 Mwdcz.out h2 Lwdcz.out (by omega)
     have d9 := cell_row M9 0 _ rfl
     refine hK.out _ _ (d9) (fun hHeld => ?_)
     clear hK K
     try simp only [Act.put, List.setIfInBounds_toArray, List.set_cons_zero, List.set_cons_succ]
     refine wpAnyH_take (i := 9) (oi := ⟨_, _, _, _, _, _⟩) (v := ?_) rfl (by kernel_rfl) (by kernel_rfl) (by kernel_rfl) (fun _ _ _ h => h) (Or.inl ⟨by rfl, ?_⟩) (by assumption) ?_
     rotate_left
     ·intro w hSw
      try dsimp only at hSw
      go_simp
      try with_reducible rfl
     try simp only [Act.put, List.setIfInBounds_toArray, List.set_cons_zero, List.set_cons_succ]
     refine wpAnyH_done (by kernel_rfl) ?_ _
     go_wp2_with fail
     go_meet
     exact ⟨_, rfl, rfl, lt_of_block h1, h1, M9, below_grown9 Bwdcz.out h2 (by omega)⟩
    exact AllReadyH.nil
   refine AllReadyH.cons (o := ⟨_, _, _, _, _, _⟩) rfl (fun K hK => ?_) ?_
   ·go_simp
    have hb : Below wdc.heap.size wdc (wdc.alloc (.cells #[.string ⟨#[]⟩] 151)) := blAlloc (Below.refl _ _) _
    have KZwdcz : Hid ((wdc.alloc (.cells #[.string ⟨#[]⟩] 151)).heap[wdc.heap.size]? = some (.cells #[.string ⟨#[]⟩] 151)) := Lib.hid (new_blockC _ _ _)
    have LZwdcz : Hid (wdc.heap.size < (wdc.alloc (.cells #[.string ⟨#[]⟩] 151)).heap.size) := Lib.hid (by simp)
    have HRwdcz := Lib.hid (HRwdc.out.later hb)
    obtain ⟨bz, hbz⟩ : ∃ k, k = wdc.heap.size := ⟨_, rfl⟩
    rw [← hbz] at KZwdcz LZwdcz
    have hbl : W.heap.size < bz := by rw [hbz]; exact Lwdc.out
    rw [← hbz]
    clear hbz
    generalize wdc.alloc (.cells #[.string ⟨#[]⟩] 151) = wdcz at *
    have dwdcz := cell_in hb Lwdc.out dwdc
    have Mwdcz := Lib.hid ((hb.block W.heap.size Lwdc.out).trans Mwdc.out)
    have Lwdcz : Hid (W.heap.size < wdcz.heap.size) := Lib.hid (Nat.lt_of_lt_of_le Lwdc.out hb.size)
    have Bwdcz : Hid (Below W.heap.size W wdcz) := Lib.hid (blThen Bwdc.out hb)
    clear hb
    refine hK.out _ _ (dwdcz) (fun hHeld => ?_)
    clear hK K
    try simp only [Act.put, List.setIfInBounds_toArray, List.set_cons_zero, List.set_cons_succ]
    refine wpAnyH_ready (rs := [3]) (by kernel_rfl) (by simp) ?_
    refine AllReadyH.cons (o := ⟨_, _, _, _, _, _⟩) rfl (fun K hK => ?_) ?_
    ·have ql := HRUN.out _ _ HRwdcz.out
     go_simp
     clear ql
     refine hK.out _ _ (dwdcz) (fun hHeld => ?_)
     clear hK K
     try simp only [Act.put, List.setIfInBounds_toArray, List.set_cons_zero, List.set_cons_succ]
     refine wpAnyH_take (i := 4) (oi := ⟨_, _, _, _, _, _⟩) (v := ?_) rfl (by kernel_rfl) (by kernel_rfl) (by kernel_rfl) (fun _ _ _ h => h) (Or.inl ⟨by rfl, ?_⟩) (by assumption) ?_
     rotate_left
     ·intro w hSw
      try dsimp only at hSw
      go_simp
      try with_reducible rfl
     try simp only [Act.put, List.setIfInBounds_toArray, List.set_cons_zero, List.set_cons_succ]
     refine wpAnyH_take (i := 5) (oi := ⟨_, _, _, _, _, _⟩) (v := ?_) rfl (by kernel_rfl) (by kernel_rfl) (by kernel_rfl) (fun _ _ _ h => h) (Or.inl ⟨by rfl, ?_⟩) (by assumption) ?_
     rotate_left
     ·intro w hSw
      try dsimp only at hSw
      go_simp
      try with_reducible rfl
     try simp only [Act.put, List.setIfInBounds_toArray, List.set_cons_zero, List.set_cons_succ]
     refine wpAnyH_take (i := 6) (oi := ⟨_, _, _, _, _, _⟩) (v := ?_) rfl (by kernel_rfl) (by kernel_rfl) (by kernel_rfl) (fun _ _ _ h => h) (Or.inl ⟨by rfl, ?_⟩) (by assumption) ?_
     rotate_left
     ·intro w hSw
      try dsimp only at hSw
      go_simp
      try with_reducible rfl
     try simp only [Act.put, List.setIfInBounds_toArray, List.set_cons_zero, List.set_cons_succ]
     refine wpAnyH_ready (rs := [8]) (by kernel_rfl) (by simp) ?_
     refine AllReadyH.cons (o := ⟨_, _, _, _, _, _⟩) rfl (fun K hK => ?_) ?_
     rotate_left
     ·exact AllReadyH.nil
     refine wp_store_part _ _ _ rfl _ 0 rfl rfl (cs := #[.string sk]) rfl KZwdcz.out (by kernel_rfl) (by simp) (by simp [Value.oneCell']) (D := #[.string sk]) rfl ?_
     intro w9 h1 h2
     have M9 := grown_other9 Mwdcz.out h2 Lwdcz.out (by omega)
     have d9 := cell_row M9 0 _ rfl
     refine hK.out _ _ (d9) (fun hHeld => ?_)
     clear hK K
     try simp only [Act.put, List.setIfInBounds_toArray, List.set_cons_zero, List.set_cons_succ]
     refine wpAnyH_take (i := 9) (oi := ⟨_, _, _, _, _, _⟩) (v := ?_) rfl (by kernel_rfl) (by kernel_rfl) (by kernel_rfl) (fun _ _ _ h => h) (Or.inl ⟨by rfl, ?_⟩) (by assumption) ?_
     rotate_left
     ·intro w hSw
      try dsimp only at hSw
      go_simp
      try with_reducible rfl
     try simp only [Act.put, List.setIfInBounds_toArray, List.set_cons_zero, List.set_cons_succ]
     refine wpAnyH_done (by kernel_rfl) ?_ _
     go_wp2_with fail
     go_meet
     exact ⟨_, rfl, rfl, lt_of_block h1, h1, M9, below_grown9 Bwdcz.out h2 (by omega)⟩
    exact AllReadyH.nil
   exact AllReadyH.nil
  refine AllReadyH.cons (o := ⟨_, _, _, _, _, _⟩) rfl (fun K hK => ?_) ?_
  ·go_simp
   have hb : Below wd.heap.size wd (wd.alloc (.cells #[.string ⟨#[]⟩] 151)) := blAlloc (Below.refl _ _) _
   have KZwdz : Hid ((wd.alloc (.cells #[.string ⟨#[]⟩] 151)).heap[wd.heap.size]? = some (.cells #[.string ⟨#[]⟩] 151)) := Lib.hid (new_blockC _ _ _)
   have LZwdz : Hid (wd.heap.size < (wd.alloc (.cells #[.string ⟨#[]⟩] 151)).heap.size) := Lib.hid (by simp)
   obtain ⟨bz, hbz⟩ : ∃ k, k = wd.heap.size := ⟨_, rfl⟩
   rw [← hbz] at KZwdz LZwdz
   have hbl : W.heap.size < bz := by rw [hbz]; exact Lwd.out
   rw [← hbz]
   clear hbz
   generalize wd.alloc (.cells #[.string ⟨#[]⟩] 151) = wdz at *
   have dwdz := cell_in hb Lwd.out dwd
   have Mwdz := Lib.hid ((hb.block W.heap.size Lwd.out).trans Mwd.out)
   have Lwdz : Hid (W.heap.size < wdz.heap.size) := Lib.hid (Nat.lt_of_lt_of_le Lwd.out hb.size)
   have Bwdz : Hid (Below W.heap.size W wdz) := Lib.hid (blThen Bwd.out hb)
   clear hb
   refine hK.out _ _ (dwdz) (fun hHeld => ?_)
   clear hK K
   try simp only [Act.put, List.setIfInBounds_toArray, List.set_cons_zero, List.set_cons_succ]
   refine wpAnyH_ready (rs := [0]) (by kernel_rfl) (by simp) ?_
   refine AllReadyH.cons (o := ⟨_, _, _, _, _, _⟩) rfl (fun K hK => ?_) ?_
   ·go_simp
    go_at_call 112
    refine (rows_any _).mono ?_
    rintro e wdzc ⟨b, rfl, hr, hb⟩
    have dwdzc := cell_in hb Lwdz.out dwdz
    have Mwdzc := Lib.hid ((hb.block W.heap.size Lwdz.out).trans Mwdz.out)
    have Lwdzc : Hid (W.heap.size < wdzc.heap.size) := Lib.hid (Nat.lt_of_lt_of_le Lwdz.out hb.size)
    have Bwdzc : Hid (Below W.heap.size W wdzc) := Lib.hid (blThen Bwdz.out hb)
    have KZwdzc := Lib.hid ((hb.block bz LZwdz.out).trans KZwdz.out)
    have LZwdzc : Hid (bz < wdzc.heap.size) := Lib.hid (Nat.lt_of_lt_of_le LZwdz.out hb.size)
    have HRwdzc := Lib.hid hr
    clear hr hb
    refine hK.out _ _ (dwdzc) (fun hHeld => ?_)
    clear hK K
    try simp only [Act.put, List.setIfInBounds_toArray, List.set_cons_zero, List.set_cons_succ]
    refine wpAnyH_ready (rs := [3]) (by kernel_rfl) (by simp) ?_
    refine AllReadyH.cons (o := ⟨_, _, _, _, _, _⟩) rfl (fun K hK => ?_) ?_
    ·have ql := HRUN.out _ _ HRwdzc.out
     go_simp
     clear ql
     refine hK.out _ _ (dwdzc) (fun hHeld => ?_)
     clear hK K
     try simp only [Act.put, List.setIfInBounds_toArray, List.set_cons_zero, List.set_cons_succ]
     refine wpAnyH_take (i := 4) (oi := ⟨_, _, _, _, _, _⟩) (v := ?_) rfl (by kernel_rfl) (by kernel_rfl) (by kernel_rfl) (fun _ _ _ h => h) (Or.inl ⟨by rfl, ?_⟩) (by assumption) ?_
     rotate_left
     ·intro w hSw
      try dsimp only at hSw
      go_simp
      try with_reducible rfl
     try simp only [Act.put, List.setIfInBounds_toArray, List.set_cons_zero, List.set_cons_succ]
     refine wpAnyH_take (i := 5) (oi := ⟨_, _, _, _, _, _⟩) (v := ?_) rfl (by kernel_rfl) (by kernel_rfl) (by kernel_rfl) (fun _ _ _ h => h) (Or.inl ⟨by rfl, ?_⟩) (by assumption) ?_
     rotate_left
     ·intro w hSw
      try dsimp only at hSw
      go_simp
      try with_reducible rfl
     try simp only [Act.put, List.setIfInBounds_toArray, List.set_cons_zero, List.set_cons_succ]
     refine wpAnyH_take (i := 6) (oi := ⟨_, _, _, _, _, _⟩) (v := ?_) rfl (by kernel_rfl) (by kernel_rfl) (by kernel_rfl) (fun _ _ _ h => h) (Or.inl ⟨by rfl, ?_⟩) (by assumption) ?_
     rotate_left
     ·intro w hSw
      try dsimp only at hSw
      go_simp
      try with_reducible rfl
     try simp only [Act.put, List.setIfInBounds_toArray, List.set_cons_zero, List.set_cons_succ]
     refine wpAnyH_ready (rs := [8]) (by kernel_rfl) (by simp) ?_
     refine AllReadyH.cons (o := ⟨_, _, _, _, _, _⟩) rfl (fun K hK => ?_) ?_
     rotate_left
     ·exact AllReadyH.nil
     refine wp_store_part _ _ _ rfl _ 0 rfl rfl (cs := #[.string sk]) rfl KZwdzc.out (by kernel_rfl) (by simp) (by simp [Value.oneCell']) (D := #[.string sk]) rfl ?_
     intro w9 h1 h2
     have M9 := grown_other9 Mwdzc.out h2 Lwdzc.out (by omega)
     have d9 := cell_row M9 0 _ rfl
     refine hK.out _ _ (d9) (fun hHeld => ?_)
     clear hK K
     try simp only [Act.put, List.setIfInBounds_toArray, List.set_cons_zero, List.set_cons_succ]
     refine wpAnyH_take (i := 9) (oi := ⟨_, _, _, _, _, _⟩) (v := ?_) rfl (by kernel_rfl) (by kernel_rfl) (by kernel_rfl) (fun _ _ _ h => h) (Or.inl ⟨by rfl, ?_⟩) (by assumption) ?_
     rotate_left
     ·intro w hSw
      try dsimp only at hSw
      go_simp
      try with_reducible rfl
     try simp only [Act.put, List.setIfInBounds_toArray, List.set_cons_zero, List.set_cons_succ]
     refine wpAnyH_done (by kernel_rfl) ?_ _
     go_wp2_with fail
     go_meet
     exact ⟨_, rfl, rfl, lt_of_block h1, h1, M9, below_grown9 Bwdzc.out h2 (by omega)⟩
    exact AllReadyH.nil
   exact AllReadyH.nil
  exact AllReadyH.nil
 case rest =>
  obtain ⟨b3, e3, e4, hb3, hr3, hm3, hB3⟩ := hcut
  rename World => wc
  rw [e3, e4]
  clear e3 e4
  have HB3 := Lib.hid hB3
  have KM3 := Lib.hid hm3
  have LM3 : Hid (W.heap.size < wc.heap.size) := Lib.hid (lt_of_block hm3)
  have cs3 := cell_row hr3 0 _ rfl
  have c1 := cell_row hm3 1 _ rfl
  have c2 := cell_row hm3 2 _ rfl
  have c3 := cell_row hm3 3 _ rfl
  have c4 := cell_row hm3 4 _ rfl
  have HR3 := Lib.hid hr3
  clear hr3 hm3 hB3
  cases bo
  ·obtain rfl : v = 130 := HNO.out rfl
   go_wp2
   go_ret
   exact ⟨rfl, HB3.out⟩
  obtain ⟨L, hL⟩ := Option.isSome_iff_exists.1 HBO.out
  have HRO := Lib.hid (row_ok hL)
  have HV : Hid (v = if (nodeB frm && nodeB dst && S1.isS (id1, id2) && L.all (fitsB ⟨kind, frm, dst, (id1, id2), (b1, b2), (a1, a2), ops, fast, deps, has, (q1, q2), (gone, (t1, t2), vdeps), writes, pairs⟩) && bareB (L.foldl lessM ⟨kind, frm, dst, (id1, id2), (b1, b2), (a1, a2), ops, fast, deps, has, (q1, q2), (gone, (t1, t2), vdeps), writes, pairs⟩)) = true then 0 else 130) := Lib.hid (HYES.out L hL)
  have HN1 := Lib.hid (fun Y : World => node_any frm Y)
  have HN2 := Lib.hid (fun Y : World => node_any dst Y)
  have HSI := Lib.hid (fun Y : World => fitStamp_any (id1, id2) Y)
  clear hL
  simp only at HSI
  cases h1 : nodeB frm
  ·rw [h1] at HN1 HV
   obtain rfl : v = 130 := by rw [HV.out]; rfl
   go_wp2_with (first | (go_at_call 113; go_must (refine (HN1.out _).mono ?_; rintro e wn ⟨rfl, rfl⟩)))
   go_ret
   exact ⟨rfl, HB3.out⟩
  cases h2 : nodeB dst
  ·rw [h1] at HN1 HV
   rw [h2] at HN2 HV
   obtain rfl : v = 130 := by rw [HV.out]; rfl
   go_wp2_with (first | (go_at_call 113; (first | (with_reducible refine (HN1.out _).mono ?_; rintro e wn ⟨rfl, rfl⟩) | (with_reducible refine (HN2.out _).mono ?_; rintro e wn ⟨rfl, rfl⟩))))
   go_ret
   exact ⟨rfl, HB3.out⟩
  rw [h1, h2] at HV
  rw [h1] at HN1
  rw [h2] at HN2
  have ARMN : True := trivial
  cases h3 : S1.isS (id1, id2)
  ·rw [h3] at HSI HV
   obtain rfl : v = 130 := by rw [HV.out]; rfl
   go_wp2_with (first | (go_at_call 113; (first | (with_reducible refine (HN1.out _).mono ?_; rintro e wn ⟨rfl, rfl⟩) | (with_reducible refine (HN2.out _).mono ?_; rintro e wn ⟨rfl, rfl⟩))) | (go_at_call 50; go_must (refine (HSI.out _).mono ?_; rintro e wS ⟨rfl, h5⟩; have HB5 : Hid (Below W.heap.size W wS) := Lib.hid (blThen HB3.out h5); clear h5)))
   go_ret
   exact ⟨rfl, HB5.out⟩
  rw [h3] at HSI HV
  clear h1 h2 h3
  have HV2 : Hid (v = if (L.all (fitsB ⟨kind, frm, dst, (id1, id2), (b1, b2), (a1, a2), ops, fast, deps, has, (q1, q2), (gone, (t1, t2), vdeps), writes, pairs⟩) && bareB (L.foldl lessM ⟨kind, frm, dst, (id1, id2), (b1, b2), (a1, a2), ops, fast, deps, has, (q1, q2), (gone, (t1, t2), vdeps), writes, pairs⟩)) = true then 0 else 130) := Lib.hid (by rw [HV.out]; rfl)
  clear HV
  obtain ⟨MM, hMM⟩ : ∃ x, x = (⟨kind, frm, dst, (id1, id2), (b1, b2), (a1, a2), ops, fast, deps, has, (q1, q2), (gone, (t1, t2), vdeps), writes, pairs⟩ : Mg) := ⟨_, rfl⟩
  have HMM := Lib.hid hMM
  rw [← hMM] at HV2 HAT HF
  clear hMM
  have HCM : Hid (#[.int .i64 kind, .int .i64 frm, .int .i64 dst, .int .i64 id1, .int .i64 id2, .int .i64 b1, .int .i64 b2, .int .i64 a1, .int .i64 a2, lo, .bool fast, ld, .bool has, .int .i64 q1, .int .i64 q2, .bool gone, .int .i64 t1, .int .i64 t2, lv, lw, lp] = msR MM ⟨lo, ld, lv, lw, lp⟩) := Lib.hid (by rw [HMM.out]; rfl)
  go_wp2_with (first | (go_at_call 113; (first | (with_reducible refine (HN1.out _).mono ?_; rintro e wn ⟨rfl, rfl⟩) | (with_reducible refine (HN2.out _).mono ?_; rintro e wn ⟨rfl, rfl⟩))) | (go_at_call 50; go_must (refine (HSI.out _).mono ?_; rintro e wS ⟨rfl, h5⟩; have KMS := Lib.hid ((h5.block W.heap.size LM3.out).trans KM3.out); have LMS : Hid (W.heap.size < wS.heap.size) := Lib.hid (Nat.lt_of_lt_of_le LM3.out h5.size); have LB3 : Hid (b3 < wS.heap.size) := Lib.hid (Nat.lt_of_lt_of_le hb3 h5.size); have KRS := Lib.hid ((h5.block b3 hb3).trans HR3.out); have HBS : Hid (Below W.heap.size W wS) := Lib.hid (blThen HB3.out h5); clear h5)) | go_skip | ((with_reducible refine atW wS ?_); refine loadM _ rfl rfl _ rfl KMS.out rfl ?_) | ((with_reducible refine atW (wS.alloc (.cells #[.int .i64 0, .int .i64 0, .int .i64 0, .int .i64 0, .int .i64 0, .int .i64 0, .int .i64 0, .int .i64 0, .int .i64 0, .slice none 0 0, .bool false, .slice none 0 0, .bool false, .int .i64 0, .int .i64 0, .bool false, .int .i64 0, .int .i64 0, .slice none 0 0, .slice none 0 0, .slice none 0 0] 61)) ?_); refine storeM _ _ rfl rfl _ rfl rfl (new_blockC wS _ _) rfl rfl (by rw [HCM.out]; exact ms_one HAT.out) ?_; intro wR q1 q2; have hbA : Below wS.heap.size wS (wS.alloc (.cells #[.int .i64 0, .int .i64 0, .int .i64 0, .int .i64 0, .int .i64 0, .int .i64 0, .int .i64 0, .int .i64 0, .int .i64 0, .slice none 0 0, .bool false, .slice none 0 0, .bool false, .int .i64 0, .int .i64 0, .bool false, .int .i64 0, .int .i64 0, .slice none 0 0, .slice none 0 0, .slice none 0 0] 61)) := blAlloc (Below.refl _ _) _; have KR0 := Lib.hid q1; have KMR := Lib.hid ((q2.block W.heap.size (by have := LMS.out; simp; omega) (by have := LMS.out; intro e; have := Option.some.inj e; omega)).trans ((hbA.block W.heap.size LMS.out).trans KMS.out)); have cR := cell_row ((q2.block b3 (by have := LB3.out; simp; omega) (by have := LB3.out; intro e; have := Option.some.inj e; omega)).trans ((hbA.block b3 LB3.out).trans KRS.out)) 0 _ rfl; have LWS := LMS; have LSR : Hid (wS.heap.size < wR.heap.size) := Lib.hid (lt_of_block q1); have HBR : Hid (Below W.heap.size W wR) := Lib.hid (below_grown9 (blAlloc HBS.out _) q2 (Nat.le_of_lt LMS.out)); clear q1 q2 hbA))
  go_loopw [2, 7] (fun _ _ wr => ∃ (k : Nat) (lk : PlM), k ≤ L.length ∧ (L.take k).all (fitsB MM) = true ∧ MsAt W ((L.take k).foldl lessM MM) lk ∧ wr.heap[wS.heap.size]? = some (.cells (msR ((L.take k).foldl lessM MM) lk) 61 (0, 0)) ∧ wr.heap[W.heap.size]? = some (.cells #[.int .i64 kind, .int .i64 frm, .int .i64 dst, .int .i64 id1, .int .i64 id2, .int .i64 b1, .int .i64 b2, .int .i64 a1, .int .i64 a2, lo, .bool fast, ld, .bool has, .int .i64 q1, .int .i64 q2, .bool gone, .int .i64 t1, .int .i64 t2, lv, lw, lp] 61 (0, 0)) ∧ wr.heap[wR.heap.size]? = some (.stringIter sk k) ∧ Below W.heap.size W wr) (fun _ _ wr => L.length - wr.iterPos wR.heap.size)
  case atStart =>
   have hbi : Below wR.heap.size wR (wR.iter sk 0) := blAlloc (Below.refl _ _) _
   refine ⟨0, ⟨lo, ld, lv, lw, lp⟩, Nat.zero_le _, rfl, HAT.out, ?_, (hbi.block W.heap.size (lt_of_block KMR.out)).trans KMR.out, World.iter_heap wR sk 0, blThen HBR.out hbi⟩
   have h := (hbi.block wS.heap.size LSR.out).trans KR0.out
   rw [HCM.out] at h
   exact h
  case round =>
   obtain ⟨k, lk, hk, hall, hat, hr, hm, hi, hb⟩ := hrel
   have HALL := Lib.hid hall
   have HK := Lib.hid hk
   have HATK := Lib.hid hat
   have HBW := Lib.hid hb
   have HRK := Lib.hid hr
   have HMK := Lib.hid hm
   have HIK := Lib.hid hi
   have hro : RowOk sk L := HSK.out ▸ HRO.out
   have HLEN := Lib.hid hro.len
   have LWR : Hid (W.heap.size < wR.heap.size) := Lib.hid (lt_of_block KMR.out)
   obtain ⟨mk, hmk⟩ : ∃ x, x = (L.take k).foldl lessM MM := ⟨_, rfl⟩
   have HMK2 := Lib.hid hmk
   rw [← hmk] at HRK HATK
   have HFK : Hid (FewM mk) := Lib.hid (by rw [hmk]; exact few_fold _ _ HF.out)
   clear hall hat hr hm hb hk hmk
   by_cases hks : k < sk.size
   ·obtain ⟨g1, g2, g3⟩ := hro.at_ k hks
    obtain ⟨c, hc⟩ : ∃ c : Int, c = (((sk[k]'hks).toNat : Nat) : Int) := ⟨_, rfl⟩
    rw [← hc] at g1 g3
    have hnx : ∀ ty, (Instr.next (.pointer (some ⟨wR.heap.size, 0, none⟩)) true ty).run Tryz.prog wr = .ok (.tuple #[.bool true, .int .i64 k, .int .i32 c]) (wr.iterAt wR.heap.size sk (k + 1)) := fun ty => by rw [hc]; exact Lib.run_next_ascii_at wr wR.heap.size sk k ty hi hks g2
    have hi2 := Lib.iterAt_heap wr wR.heap.size sk k (k + 1) hi
    have hr2 := (Lib.iterAt_other wr wR.heap.size wS.heap.size sk (k + 1) (by have := LSR.out; omega)).trans HRK.out
    have hm2 := (Lib.iterAt_other wr wR.heap.size W.heap.size sk (k + 1) (by have := LWR.out; omega)).trans HMK.out
    have hb2 := Lib.below_iterAt HBW.out (k := wR.heap.size) (by have := LWR.out; omega) sk (k + 1)
    obtain ⟨wi, hwi⟩ : ∃ x, x = wr.iterAt wR.heap.size sk (k + 1) := ⟨_, rfl⟩
    rw [← hwi] at hnx hi2 hr2 hm2 hb2
    have KI := Lib.hid hi2
    have KR := Lib.hid hr2
    have KM := Lib.hid hm2
    have KB := Lib.hid hb2
    have G1 := Lib.hid g1
    have G3 := Lib.hid g3
    have HFI := Lib.hid (fun (Y : World) (hY : Below W.heap.size W Y) => fits_any9 MM ⟨lo, ld, lv, lw, lp⟩ c Y (HAT.out.later hY) HF.out g3)
    have EM : msV MM ⟨lo, ld, lv, lw, lp⟩ = .agg #[.int .i64 kind, .int .i64 frm, .int .i64 dst, .int .i64 id1, .int .i64 id2, .int .i64 b1, .int .i64 b2, .int .i64 a1, .int .i64 a2, lo, .bool fast, ld, .bool has, .int .i64 q1, .int .i64 q2, .bool gone, .int .i64 t1, .int .i64 t2, lv, lw, lp] := by rw [HCM.out]; rfl
    rw [EM] at HFI
    clear g1 g2 g3 hc hi hi2 hr2 hm2 hb2 hwi hro EM
    have LI : Hid (wR.heap.size < wi.heap.size) := Lib.hid (lt_of_block KI.out)
    cases hf : fitsB MM c
    ·rw [hf] at HFI
     obtain rfl : v = 130 := by rw [HV2.out, all_bad G1.out hf]; rfl
     go_wp2_with (first | go_skip | ((with_reducible refine atW wi ?_); refine loadM _ rfl rfl _ rfl KM.out rfl ?_) | (go_at_call 114; go_must (refine (HFI.out _ KB.out).mono ?_; rintro e w8 ⟨rfl, h5⟩; have HB8 : Hid (Below W.heap.size W w8) := Lib.hid (blThen KB.out h5); clear h5)))
     go_ret
     exact ⟨rfl, HB8.out⟩
    ·rw [hf] at HFI
     have HFT := Lib.hid hf
     clear hf
     go_wp2_with (first | go_skip | ((with_reducible refine atW w9 ?_); refine storeM _ _ rfl rfl _ rfl rfl KR9.out rfl rfl (ms_one HA9.out) ?_; intro wT q1 q2; have KRT := Lib.hid q1; have KMT := Lib.hid (grown_other9 KM9.out q2 (lt_of_block KM9.out) (by have := LWS.out; omega)); have KIT := Lib.hid (grown_other9 KI9.out q2 (lt_of_block KI9.out) (by have := LSR.out; omega)); have HBT : Hid (Below W.heap.size W wT) := Lib.hid (below_grown9 HB9.out q2 (Nat.le_of_lt LWS.out)); clear q1 q2) | ((with_reducible refine atW wi ?_); refine loadM _ rfl rfl _ rfl KM.out rfl ?_) | ((with_reducible refine atW w8 ?_); refine loadM _ rfl rfl _ rfl KR8.out rfl ?_) | (go_at_call 114; go_must (refine (HFI.out _ KB.out).mono ?_; rintro e w8 ⟨rfl, h5⟩; have HB8 : Hid (Below W.heap.size W w8) := Lib.hid (blThen KB.out h5); have KM8 := Lib.hid ((h5.block _ (lt_of_block KM.out)).trans KM.out); have KR8 := Lib.hid ((h5.block _ (lt_of_block KR.out)).trans KR.out); have KI8 := Lib.hid ((h5.block _ (lt_of_block KI.out)).trans KI.out); clear h5)) | (go_at_call 115; go_must (refine (without_any9 mk lk c W w8 HATK.out G3.out).mono ?_; rintro e w9 ⟨l9, rfl, ha, h5⟩; have HA9 := Lib.hid ha; have HB9 : Hid (Below W.heap.size W w9) := Lib.hid (blThen HB8.out h5); have KM9 := Lib.hid ((h5.block _ (lt_of_block KM8.out)).trans KM8.out); have KR9 := Lib.hid ((h5.block _ (lt_of_block KR8.out)).trans KR8.out); have KI9 := Lib.hid ((h5.block _ (lt_of_block KI8.out)).trans KI8.out); clear ha h5)))
     simp only [Act.put]
     go_roundw
     case rel =>
      have e1 : (L.take (k + 1)).foldl lessM MM = lessM mk c := by rw [fold_take G1.out, ← HMK2.out]
      refine ⟨k + 1, l9, ?_, all_take G1.out HFT.out HALL.out, ?_, ?_, KMT.out, KIT.out, HBT.out⟩
      ·have := HLEN.out; omega
      ·rw [e1]; exact HA9.out
      ·rw [e1]; exact KRT.out
     case measure =>
      have := HLEN.out
      simp only [World.iterPos, KIT.out, HIK.out]
      omega
   ·have hnx : ∀ ty, (Instr.next (.pointer (some ⟨wR.heap.size, 0, none⟩)) true ty).run Tryz.prog wr = .ok (.tuple #[.bool false]) wr := fun ty => Lib.run_next_end_at wr wR.heap.size sk k ty hi hks
    have hkl : L.take k = L := List.take_of_length_le (by have := HLEN.out; omega)
    have HE : Hid (mk = L.foldl lessM MM) := Lib.hid (by rw [HMK2.out, hkl])
    have HA2 : Hid (L.all (fitsB MM) = true) := Lib.hid (by rw [← HALL.out, hkl])
    have HBA := Lib.hid (fun (Y : World) (hY : Below W.heap.size W Y) => bare_any9 mk lk Y (HATK.out.later hY) HFK.out)
    clear hkl hi hro
    cases hbr : bareB mk
    ·rw [hbr] at HBA
     obtain rfl : v = 130 := by rw [HV2.out, ← HE.out, hbr, HA2.out]; rfl
     go_wp2_with (first | go_skip | ((with_reducible refine atW wr ?_); refine loadM _ rfl rfl _ rfl HRK.out rfl ?_) | (go_at_call 116; go_must (refine (HBA.out _ HBW.out).mono ?_; rintro e w8 ⟨rfl, h5⟩; have HB8 : Hid (Below W.heap.size W w8) := Lib.hid (blThen HBW.out h5); clear h5)))
     go_ret
     exact ⟨rfl, HB8.out⟩
    ·rw [hbr] at HBA
     obtain rfl : v = 0 := by rw [HV2.out, ← HE.out, hbr, HA2.out]; rfl
     go_wp2_with (first | go_skip | ((with_reducible refine atW wr ?_); refine loadM _ rfl rfl _ rfl HRK.out rfl ?_) | (go_at_call 116; go_must (refine (HBA.out _ HBW.out).mono ?_; rintro e w8 ⟨rfl, h5⟩; have HB8 : Hid (Below W.heap.size W w8) := Lib.hid (blThen HBW.out h5); clear h5)))
     go_ret
     exact ⟨rfl, HB8.out⟩

theorem i8_three (x y z : Int) : [x, y, z].flatMap S2.i8 = (S2.i8 x ++ (S2.i8 y ++ S2.i8 z)) := by simp
theorem st_fl3 (x y z : Int × Int) : [x, y, z].flatMap S2.st = (S2.st x ++ (S2.st y ++ S2.st z)) := by simp
theorem three_new (w : World) (x y z : Int) (b : Nat) (hb : b = w.heap.size) (W : World) (hW : W.heap = (w.alloc (.cells #[.int .i64 x, .int .i64 y, .int .i64 z] 2)).heap) : S2.IL W b (some ⟨b, 0, none⟩) [x, y, z] := by
 subst hb
 have h : W.heap[w.heap.size]? = some (.cells #[.int .i64 x, .int .i64 y, .int .i64 z] 2 (0, 0)) := by rw [hW]; exact new_blockC w _ _
 intro _
 refine ⟨0, rfl, fun j v hz => ?_⟩
 match j, hz with
 | 0, hz => simp only [List.getElem?_cons_zero, Option.some.injEq] at hz; subst hz; exact cell_row h 0 _ rfl
 | 1, hz => simp only [List.getElem?_cons_succ, List.getElem?_cons_zero, Option.some.injEq] at hz; subst hz; exact cell_row h 1 _ rfl
 | 2, hz => simp only [List.getElem?_cons_succ, List.getElem?_cons_zero, Option.some.injEq] at hz; subst hz; exact cell_row h 2 _ rfl
 | n + 3, hz => simp at hz
theorem sl_pen3 (w : World) (x y u v p q : Int) (b : Nat) (hb : b = w.heap.size) (W : World) (hW : W.heap = (w.alloc (.cells #[.int .i64 x, .int .i64 y, .int .i64 u, .int .i64 v, .int .i64 p, .int .i64 q] 23)).heap) : S2.SL W b (some ⟨b, 0, none⟩) [(x, y), (u, v), (p, q)] := by
 subst hb
 have h : W.heap[w.heap.size]? = some (.cells #[.int .i64 x, .int .i64 y, .int .i64 u, .int .i64 v, .int .i64 p, .int .i64 q] 23 (0, 0)) := by rw [hW]; exact new_blockC w _ _
 intro _
 refine ⟨0, rfl, fun j a c hz => ?_⟩
 match j, hz with
 | 0, hz => simp only [List.getElem?_cons_zero, Option.some.injEq, Prod.mk.injEq] at hz; obtain ⟨rfl, rfl⟩ := hz; exact ⟨cell_row h 0 _ rfl, cell_row h 1 _ rfl⟩
 | 1, hz => simp only [List.getElem?_cons_succ, List.getElem?_cons_zero, Option.some.injEq, Prod.mk.injEq] at hz; obtain ⟨rfl, rfl⟩ := hz; exact ⟨cell_row h 2 _ rfl, cell_row h 3 _ rfl⟩
 | 2, hz => simp only [List.getElem?_cons_succ, List.getElem?_cons_zero, Option.some.injEq, Prod.mk.injEq] at hz; obtain ⟨rfl, rfl⟩ := hz; exact ⟨cell_row h 4 _ rfl, cell_row h 5 _ rfl⟩
 | n + 3, hz => simp at hz
structure PutM (m : Mg) : Prop where
 ops : ∀ o ∈ m.ops, o.2.1.size ≤ 1000 ∧ o.2.2.1.size ≤ 1000
 writes : ∀ o ∈ m.writes, o.1.size ≤ 1000
 pairs : ∀ o ∈ m.pairs, o.1.size ≤ 1000
theorem layM_any (b : Nat) (r : Option Nat) (B : List UInt8) (m : Mg) (l : PlM) (w0 w : World) (hp : S2.PenAt w b r B) (hlen : B.length ≤ 1000) (h : MsAt w0 m l) (hf : FewM m) (hk : PutM m) (hbel : Below w0.heap.size w0 w) (hb0 : w0.heap.size ≤ b) (hr0 : ∀ k, r = some k → w0.heap.size ≤ k) :
  Calls Tryz.prog 97 #[.pointer (some ⟨b, 0, none⟩), msV m l] w (S2.Laid w b r (B ++ bodyM m)) := by
 obtain ⟨kind, frm, dst, ⟨id1, id2⟩, ⟨b1, b2⟩, ⟨a1, a2⟩, ops, fast, deps, has, ⟨q1, q2⟩, ⟨gone, ⟨t1, t2⟩, vdeps⟩, writes, pairs⟩ := m
 obtain ⟨lo, ld, lv, lw, lp⟩ := l
 obtain ⟨da, dc, dF, rfl, hs1, hs2, hs3⟩ := h.d
 simp only at hs2
 subst hs2
 have HAT := Lib.hid h
 have HFC := Lib.hid hf
 have HPC := Lib.hid hk
 have HSD := Lib.hid hs1
 have HSW := Lib.hid (few_v rfl hf.deps)
 have HLO : Hid ((layP ops).length ≤ 41000000) := Lib.hid (by
  have h1 := layO_len_le ops hk.ops
  have h2 := hf.ops
  simp only at h2
  unfold layP
  rw [List.length_append, S2.i8_length]
  omega)
 have HLW : Hid ((cW.list.lay writes).length ≤ 21000000) := Lib.hid (by
  show (S2.i8 _ ++ writes.flatMap cW.lay).length ≤ _
  have h1 := cW_len_le writes hk.writes
  have h2 := hf.writes
  simp only at h2
  rw [List.length_append, S2.i8_length]
  omega)
 have HLP : Hid ((cP.list.lay pairs).length ≤ 21000000) := Lib.hid (by
  show (S2.i8 _ ++ pairs.flatMap cP.lay).length ≤ _
  have h1 := cP_len_le pairs hk.pairs
  have h2 := hf.pairs
  simp only at h2
  rw [List.length_append, S2.i8_length]
  omega)
 clear h hf hk hs1 hs3
 simp only [msV]
 have HP0 : Hid (S2.PenAt (w.alloc (.cells #[.int .i64 kind, .int .i64 frm, .int .i64 dst, .int .i64 id1, .int .i64 id2, .int .i64 b1, .int .i64 b2, .int .i64 a1, .int .i64 a2, lo, .bool fast, .slice da dF.length dc, .bool has, .int .i64 q1, .int .i64 q2, .bool gone, .int .i64 t1, .int .i64 t2, lv, lw, lp] 61)) b r B) := Lib.hid (hp.before (S2.kAlloc (S2.Keeps.refl (fun _ => False) w) _))
 have HS0 : Hid (S2.PenStep b r r w (w.alloc (.cells #[.int .i64 kind, .int .i64 frm, .int .i64 dst, .int .i64 id1, .int .i64 id2, .int .i64 b1, .int .i64 b2, .int .i64 a1, .int .i64 a2, lo, .bool fast, .slice da dF.length dc, .bool has, .int .i64 q1, .int .i64 q2, .bool gone, .int .i64 t1, .int .i64 t2, lv, lw, lp] 61))) := Lib.hid (stepAlloc (S2.PenStep.refl b r w) _)
 have HX0 : Hid (¬ S2.PenS b r w.heap.size) := hp.apart (Nat.le_refl _)
 have HK0 : Hid ((w.alloc (.cells #[.int .i64 kind, .int .i64 frm, .int .i64 dst, .int .i64 id1, .int .i64 id2, .int .i64 b1, .int .i64 b2, .int .i64 a1, .int .i64 a2, lo, .bool fast, .slice da dF.length dc, .bool has, .int .i64 q1, .int .i64 q2, .bool gone, .int .i64 t1, .int .i64 t2, lv, lw, lp] 61)).heap[w.heap.size]? = some (.cells #[.int .i64 kind, .int .i64 frm, .int .i64 dst, .int .i64 id1, .int .i64 id2, .int .i64 b1, .int .i64 b2, .int .i64 a1, .int .i64 a2, lo, .bool fast, .slice da dF.length dc, .bool has, .int .i64 q1, .int .i64 q2, .bool gone, .int .i64 t1, .int .i64 t2, lv, lw, lp] 61 (0, 0))) := Lib.hid (new_blockC w _ _)
 have HZ0 : Hid (w.heap.size < (w.alloc (.cells #[.int .i64 kind, .int .i64 frm, .int .i64 dst, .int .i64 id1, .int .i64 id2, .int .i64 b1, .int .i64 b2, .int .i64 a1, .int .i64 a2, lo, .bool fast, .slice da dF.length dc, .bool has, .int .i64 q1, .int .i64 q2, .bool gone, .int .i64 t1, .int .i64 t2, lv, lw, lp] 61)).heap.size) := Lib.hid (by simp)
 have HB0 : Hid (Below w0.heap.size w0 (w.alloc (.cells #[.int .i64 kind, .int .i64 frm, .int .i64 dst, .int .i64 id1, .int .i64 id2, .int .i64 b1, .int .i64 b2, .int .i64 a1, .int .i64 a2, lo, .bool fast, .slice da dF.length dc, .bool has, .int .i64 q1, .int .i64 q2, .bool gone, .int .i64 t1, .int .i64 t2, lv, lw, lp] 61))) := Lib.hid (hbel.trans ((blAlloc (Below.refl _ _) _ : Below w.heap.size w _).mono hbel.size))
 have HBB := Lib.hid hb0
 have HR0 := Lib.hid hr0
 have HL0 : Hid (B.length ≤ 1000) := Lib.hid hlen
 clear hp hlen hbel hb0 hr0
 go_enter Tryz.func97, Tryz.ntmps97
 go_wp2_with fail
 generalize (w.alloc (.cells #[.int .i64 kind, .int .i64 frm, .int .i64 dst, .int .i64 id1, .int .i64 id2, .int .i64 b1, .int .i64 b2, .int .i64 a1, .int .i64 a2, lo, .bool fast, .slice da dF.length dc, .bool has, .int .i64 q1, .int .i64 q2, .bool gone, .int .i64 t1, .int .i64 t2, lv, lw, lp] 61)) = wz at *
 have c0_0 := cell_row HK0.out 0 _ rfl
 have c1_0 := cell_row HK0.out 1 _ rfl
 have c2_0 := cell_row HK0.out 2 _ rfl
 go_region_held3 (fun Y => Y.cell? ⟨w.heap.size, 0, none⟩ = some (.int .i64 kind) ∧ Y.cell? ⟨w.heap.size, 1, none⟩ = some (.int .i64 frm) ∧ Y.cell? ⟨w.heap.size, 2, none⟩ = some (.int .i64 dst)) (first | exact ⟨c0_1, c1_1, c2_1⟩ | exact ⟨c0_0, c1_0, c2_0⟩ | exact ⟨S2.alloc_cell c0_0 _, S2.alloc_cell c1_0 _, S2.alloc_cell c2_0 _⟩) (first | (go_at_call 68; go_must (refine (S2.int_any _ b r B wz.heap.size _ 3 [kind, frm, dst] (HP0.out.before (S2.kDrew (S2.kAlloc (S2.Keeps.refl _ _) _))) (three_new wz kind frm dst _ rfl _ rfl) (HP0.out.apart (Nat.le_refl _)) (by have := HL0.out; simp only [List.length_cons, List.length_nil]; omega)).mono ?_; rw [i8_three]; intro e w1 h; unfold S2.Laid at h; obtain ⟨rfl, r1, hp1, hs1⟩ := h; have hs6 := hs1.before (w := wz) (S2.kDrew (S2.kAlloc (S2.Keeps.refl _ _) _)); obtain ⟨G1, hG⟩ : ∃ g, g = B ++ (S2.i8 kind ++ (S2.i8 frm ++ S2.i8 dst)) := ⟨_, rfl⟩; rw [← hG] at hp1; have HE1 := Lib.hid hG; have HL1 : Hid (G1.length ≤ 1024) := Lib.hid (show G1.length ≤ 1024 from by have z1 := HL0.out; have z2 := S2.i8_length kind; have z3 := S2.i8_length frm; have z4 := S2.i8_length dst; rw [hG]; simp only [List.length_append]; omega); have HP1 := Lib.hid hp1; have HK1 := Lib.hid ((hs6.keeps.block w.heap.size HZ0.out HX0.out).trans HK0.out); have HX1 := Lib.hid (hs6.free HX0.out HZ0.out); have HZ1 : Hid (w.heap.size < w1.heap.size) := Lib.hid (Nat.lt_of_lt_of_le HZ0.out hs6.keeps.size); have hpb := pen_belowP (B := w0.heap.size) hs6 HB0.out.size HBB.out HR0.out; have HB1 : Hid (Below w0.heap.size w0 w1) := Lib.hid (HB0.out.trans hpb.1); have HR1 := Lib.hid hpb.2; clear hpb; have HS1 := Lib.hid (HS0.out.trans hs6); have c0_1 := cell_row HK1.out 0 _ rfl; have c1_1 := cell_row HK1.out 1 _ rfl; have c2_1 := cell_row HK1.out 2 _ rfl; clear hp1 hs1 hs6 hG)))
 clear c0_0 c0_1 c1_0 c1_1 c2_0 c2_1
 have c3_1 := cell_row HK1.out 3 _ rfl
 have c4_1 := cell_row HK1.out 4 _ rfl
 have c5_1 := cell_row HK1.out 5 _ rfl
 have c6_1 := cell_row HK1.out 6 _ rfl
 have c7_1 := cell_row HK1.out 7 _ rfl
 have c8_1 := cell_row HK1.out 8 _ rfl
 go_wp2_with fail
 go_region_held3 (fun Y => Y.cell? ⟨w.heap.size, 3, none⟩ = some (.int .i64 id1) ∧ Y.cell? ⟨w.heap.size, 4, none⟩ = some (.int .i64 id2) ∧ Y.cell? ⟨w.heap.size, 5, none⟩ = some (.int .i64 b1) ∧ Y.cell? ⟨w.heap.size, 6, none⟩ = some (.int .i64 b2) ∧ Y.cell? ⟨w.heap.size, 7, none⟩ = some (.int .i64 a1) ∧ Y.cell? ⟨w.heap.size, 8, none⟩ = some (.int .i64 a2)) (first | exact ⟨c3_2, c4_2, c5_2, c6_2, c7_2, c8_2⟩ | exact ⟨c3_1, c4_1, c5_1, c6_1, c7_1, c8_1⟩ | exact ⟨S2.alloc_cell c3_1 _, S2.alloc_cell c4_1 _, S2.alloc_cell c5_1 _, S2.alloc_cell c6_1 _, S2.alloc_cell c7_1 _, S2.alloc_cell c8_1 _⟩) (first | (go_at_call 66; go_must (refine (S2.stamp_any _ b r1 G1 w1.heap.size _ 3 [(id1, id2), (b1, b2), (a1, a2)] (HP1.out.before (S2.kDrew (S2.kAlloc (S2.Keeps.refl _ _) _))) (sl_pen3 w1 id1 id2 b1 b2 a1 a2 _ rfl _ rfl) (HP1.out.apart (Nat.le_refl _)) (by have := HL1.out; simp only [List.length_cons, List.length_nil]; omega)).mono ?_; rw [st_fl3]; intro e w2 h; unfold S2.Laid at h; obtain ⟨rfl, r2, hp1, hs1⟩ := h; have hs6 := hs1.before (w := w1) (S2.kDrew (S2.kAlloc (S2.Keeps.refl _ _) _)); obtain ⟨G2, hG⟩ : ∃ g, g = G1 ++ (S2.st (id1, id2) ++ (S2.st (b1, b2) ++ S2.st (a1, a2))) := ⟨_, rfl⟩; rw [← hG] at hp1; have HE2 := Lib.hid hG; have HL2 : Hid (G2.length ≤ 1072) := Lib.hid (show G2.length ≤ 1072 from by have z1 := HL1.out; have z2 := S2.st_length (id1, id2); have z3 := S2.st_length (b1, b2); have z4 := S2.st_length (a1, a2); rw [hG]; simp only [List.length_append]; omega); have HP2 := Lib.hid hp1; have HK2 := Lib.hid ((hs6.keeps.block w.heap.size HZ1.out HX1.out).trans HK1.out); have HX2 := Lib.hid (hs6.free HX1.out HZ1.out); have HZ2 : Hid (w.heap.size < w2.heap.size) := Lib.hid (Nat.lt_of_lt_of_le HZ1.out hs6.keeps.size); have hpb := pen_belowP (B := w0.heap.size) hs6 HB1.out.size HBB.out HR1.out; have HB2 : Hid (Below w0.heap.size w0 w2) := Lib.hid (HB1.out.trans hpb.1); have HR2 := Lib.hid hpb.2; clear hpb; have HS2 := Lib.hid (HS1.out.trans hs6); have c3_2 := cell_row HK2.out 3 _ rfl; have c4_2 := cell_row HK2.out 4 _ rfl; have c5_2 := cell_row HK2.out 5 _ rfl; have c6_2 := cell_row HK2.out 6 _ rfl; have c7_2 := cell_row HK2.out 7 _ rfl; have c8_2 := cell_row HK2.out 8 _ rfl; clear hp1 hs1 hs6 hG)))
 clear c3_1 c3_2 c4_1 c4_2 c5_1 c5_2 c6_1 c6_2 c7_1 c7_2 c8_1 c8_2
 go_wp2_with (first | go_skip | ((with_reducible refine atC w2 ?_); go_at_call 67; go_must (refine (pops_any b r2 G2 lo ops w0 w2 HP2.out (by have := HL2.out; omega) (by have := HFC.out.ops; simp only at this; omega) HPC.out.ops HAT.out.o HB2.out HBB.out HR2.out).mono ?_; intro e w3 h; unfold S2.Laid at h; obtain ⟨rfl, r3, hp1, hs1⟩ := h; have hs6 := hs1; obtain ⟨G3, hG⟩ : ∃ g, g = G2 ++ layP ops := ⟨_, rfl⟩; rw [← hG] at hp1; have HE3 := Lib.hid hG; have HL3 : Hid (G3.length ≤ 41001072) := Lib.hid (show G3.length ≤ 41001072 from by have z1 := HL2.out; have z2 := HLO.out; rw [hG]; simp only [List.length_append]; omega); have HP3 := Lib.hid hp1; have HK3 := Lib.hid ((hs6.keeps.block w.heap.size HZ2.out HX2.out).trans HK2.out); have HX3 := Lib.hid (hs6.free HX2.out HZ2.out); have HZ3 : Hid (w.heap.size < w3.heap.size) := Lib.hid (Nat.lt_of_lt_of_le HZ2.out hs6.keeps.size); have hpb := pen_belowP (B := w0.heap.size) hs6 HB2.out.size HBB.out HR2.out; have HB3 : Hid (Below w0.heap.size w0 w3) := Lib.hid (HB2.out.trans hpb.1); have HR3 := Lib.hid hpb.2; clear hpb; have HS3 := Lib.hid (HS2.out.trans hs6); clear hp1 hs1 hs6 hG)) | (with_reducible refine atW w2 ?_; refine wpList_load_one _ _ rfl rfl _ 9 rfl HK2.out Tryz.underlying24 rfl rfl ?_))
 have c10_3 := cell_row HK3.out 10 _ rfl
 go_wp2_with fail
 go_region_held3 (fun Y => Y.cell? ⟨w.heap.size, 10, none⟩ = some (.bool fast)) (first | exact c10_4 | exact c10_3 | exact S2.alloc_cell c10_3 _) (first | (go_at_call 69; go_must (refine (S2.bool_any _ b r3 G3 fast (HP3.out.before (S2.kDrew (S2.Keeps.refl _ _))) (by have := HL3.out; omega)).mono ?_; intro e w4 h; unfold S2.Laid at h; obtain ⟨rfl, r4, hp1, hs1⟩ := h; have hs6 := hs1.before (w := w3) (S2.kDrew (S2.Keeps.refl _ _)); obtain ⟨G4, hG⟩ : ∃ g, g = G3 ++ S2.tb fast := ⟨_, rfl⟩; rw [← hG] at hp1; have HE4 := Lib.hid hG; have HL4 : Hid (G4.length ≤ 41001073) := Lib.hid (show G4.length ≤ 41001073 from by have z1 := HL3.out; have z2 := bool_len fast; rw [hG]; simp only [List.length_append]; omega); have HP4 := Lib.hid hp1; have HK4 := Lib.hid ((hs6.keeps.block w.heap.size HZ3.out HX3.out).trans HK3.out); have HX4 := Lib.hid (hs6.free HX3.out HZ3.out); have HZ4 : Hid (w.heap.size < w4.heap.size) := Lib.hid (Nat.lt_of_lt_of_le HZ3.out hs6.keeps.size); have hpb := pen_belowP (B := w0.heap.size) hs6 HB3.out.size HBB.out HR3.out; have HB4 : Hid (Below w0.heap.size w0 w4) := Lib.hid (HB3.out.trans hpb.1); have HR4 := Lib.hid hpb.2; clear hpb; have HS4 := Lib.hid (HS3.out.trans hs6); have c10_4 := cell_row HK4.out 10 _ rfl; clear hp1 hs1 hs6 hG)))
 clear c10_3 c10_4
 go_wp2_with (first | go_skip | ((with_reducible refine atC w4 ?_); go_at_call 70; go_must (refine (SD.pdeps_any b r4 G4 da dc dF w0 w4 HP4.out (by have := HL4.out; omega) HSW.out.1 HSW.out.2 HSD.out HB4.out HBB.out HR4.out).mono ?_; intro e w5 h; unfold S2.Laid at h; obtain ⟨rfl, r5, hp1, hs1⟩ := h; have hs6 := hs1; obtain ⟨G5, hG⟩ : ∃ g, g = G4 ++ SD.layD (SD.toD dF) := ⟨_, rfl⟩; rw [← hG] at hp1; have HE5 := Lib.hid hG; have HL5 : Hid (G5.length ≤ 43001073) := Lib.hid (show G5.length ≤ 43001073 from by have z1 := HL4.out; have z2 := layD_le HFC.out.deps; simp only at z2; rw [hG]; simp only [List.length_append]; omega); have HP5 := Lib.hid hp1; have HK5 := Lib.hid ((hs6.keeps.block w.heap.size HZ4.out HX4.out).trans HK4.out); have HX5 := Lib.hid (hs6.free HX4.out HZ4.out); have HZ5 : Hid (w.heap.size < w5.heap.size) := Lib.hid (Nat.lt_of_lt_of_le HZ4.out hs6.keeps.size); have hpb := pen_belowP (B := w0.heap.size) hs6 HB4.out.size HBB.out HR4.out; have HB5 : Hid (Below w0.heap.size w0 w5) := Lib.hid (HB4.out.trans hpb.1); have HR5 := Lib.hid hpb.2; clear hpb; have HS5 := Lib.hid (HS4.out.trans hs6); clear hp1 hs1 hs6 hG)) | (with_reducible refine atW w4 ?_; refine wpList_load_one _ _ rfl rfl _ 11 rfl HK4.out Tryz.underlying25 rfl rfl ?_))
 have c12_5 := cell_row HK5.out 12 _ rfl
 go_wp2_with fail
 go_region_held3 (fun Y => Y.cell? ⟨w.heap.size, 12, none⟩ = some (.bool has)) (first | exact c12_6 | exact c12_5 | exact S2.alloc_cell c12_5 _) (first | (go_at_call 69; go_must (refine (S2.bool_any _ b r5 G5 has (HP5.out.before (S2.kDrew (S2.Keeps.refl _ _))) (by have := HL5.out; omega)).mono ?_; intro e w6 h; unfold S2.Laid at h; obtain ⟨rfl, r6, hp1, hs1⟩ := h; have hs6 := hs1.before (w := w5) (S2.kDrew (S2.Keeps.refl _ _)); obtain ⟨G6, hG⟩ : ∃ g, g = G5 ++ S2.tb has := ⟨_, rfl⟩; rw [← hG] at hp1; have HE6 := Lib.hid hG; have HL6 : Hid (G6.length ≤ 43001074) := Lib.hid (show G6.length ≤ 43001074 from by have z1 := HL5.out; have z2 := bool_len has; rw [hG]; simp only [List.length_append]; omega); have HP6 := Lib.hid hp1; have HK6 := Lib.hid ((hs6.keeps.block w.heap.size HZ5.out HX5.out).trans HK5.out); have HX6 := Lib.hid (hs6.free HX5.out HZ5.out); have HZ6 : Hid (w.heap.size < w6.heap.size) := Lib.hid (Nat.lt_of_lt_of_le HZ5.out hs6.keeps.size); have hpb := pen_belowP (B := w0.heap.size) hs6 HB5.out.size HBB.out HR5.out; have HB6 : Hid (Below w0.heap.size w0 w6) := Lib.hid (HB5.out.trans hpb.1); have HR6 := Lib.hid hpb.2; clear hpb; have HS6 := Lib.hid (HS5.out.trans hs6); have c12_6 := cell_row HK6.out 12 _ rfl; clear hp1 hs1 hs6 hG)))
 clear c12_5 c12_6
 have c13_6 := cell_row HK6.out 13 _ rfl
 have c14_6 := cell_row HK6.out 14 _ rfl
 go_wp2_with fail
 go_region_held3 (fun Y => Y.cell? ⟨w.heap.size, 13, none⟩ = some (.int .i64 q1) ∧ Y.cell? ⟨w.heap.size, 14, none⟩ = some (.int .i64 q2)) (first | exact ⟨c13_7, c14_7⟩ | exact ⟨c13_6, c14_6⟩ | exact ⟨S2.alloc_cell c13_6 _, S2.alloc_cell c14_6 _⟩) (first | (go_at_call 66; go_must (refine (S2.stamp_any _ b r6 G6 w6.heap.size _ 1 [(q1, q2)] (HP6.out.before (S2.kDrew (S2.kAlloc (S2.Keeps.refl _ _) _))) (sl_pen1 w6 q1 q2 _ rfl _ rfl) (HP6.out.apart (Nat.le_refl _)) (by have := HL6.out; simp only [List.length_cons, List.length_nil]; omega)).mono ?_; rw [st_fl1]; intro e w7 h; unfold S2.Laid at h; obtain ⟨rfl, r7, hp1, hs1⟩ := h; have hs6 := hs1.before (w := w6) (S2.kDrew (S2.kAlloc (S2.Keeps.refl _ _) _)); obtain ⟨G7, hG⟩ : ∃ g, g = G6 ++ S2.st (q1, q2) := ⟨_, rfl⟩; rw [← hG] at hp1; have HE7 := Lib.hid hG; have HL7 : Hid (G7.length ≤ 43001090) := Lib.hid (show G7.length ≤ 43001090 from by have z1 := HL6.out; have z2 := S2.st_length (q1, q2); rw [hG]; simp only [List.length_append]; omega); have HP7 := Lib.hid hp1; have HK7 := Lib.hid ((hs6.keeps.block w.heap.size HZ6.out HX6.out).trans HK6.out); have HX7 := Lib.hid (hs6.free HX6.out HZ6.out); have HZ7 : Hid (w.heap.size < w7.heap.size) := Lib.hid (Nat.lt_of_lt_of_le HZ6.out hs6.keeps.size); have hpb := pen_belowP (B := w0.heap.size) hs6 HB6.out.size HBB.out HR6.out; have HB7 : Hid (Below w0.heap.size w0 w7) := Lib.hid (HB6.out.trans hpb.1); have HR7 := Lib.hid hpb.2; clear hpb; have HS7 := Lib.hid (HS6.out.trans hs6); have c13_7 := cell_row HK7.out 13 _ rfl; have c14_7 := cell_row HK7.out 14 _ rfl; clear hp1 hs1 hs6 hG)))
 clear c13_6 c13_7 c14_6 c14_7
 go_wp2_with (first | go_skip | ((with_reducible refine atC w9 ?_); go_at_call 73; go_must (refine (pP_any b r9 G9 lp pairs w0 w9 HP9.out (by have := HL9.out; omega) (by have := HFC.out.pairs; simp only at this; omega) HPC.out.pairs HAT.out.p HB9.out HBB.out HR9.out).mono ?_; intro e w10 h; unfold S2.Laid at h; obtain ⟨rfl, r10, hp1, hs1⟩ := h; have hs6 := hs1; obtain ⟨G10, hG⟩ : ∃ g, g = G9 ++ cP.list.lay pairs := ⟨_, rfl⟩; rw [← hG] at hp1; have HE10 := Lib.hid hG; have HL10 : Hid (G10.length ≤ 87001107) := Lib.hid (show G10.length ≤ 87001107 from by have z1 := HL9.out; have z2 := HLP.out; rw [hG]; simp only [List.length_append]; omega); have HP10 := Lib.hid hp1; have HK10 := Lib.hid ((hs6.keeps.block w.heap.size HZ9.out HX9.out).trans HK9.out); have HX10 := Lib.hid (hs6.free HX9.out HZ9.out); have HZ10 : Hid (w.heap.size < w10.heap.size) := Lib.hid (Nat.lt_of_lt_of_le HZ9.out hs6.keeps.size); have hpb := pen_belowP (B := w0.heap.size) hs6 HB9.out.size HBB.out HR9.out; have HB10 : Hid (Below w0.heap.size w0 w10) := Lib.hid (HB9.out.trans hpb.1); have HR10 := Lib.hid hpb.2; clear hpb; have HS10 := Lib.hid (HS9.out.trans hs6); clear hp1 hs1 hs6 hG)) | (with_reducible refine atW w9 ?_; refine wpList_load_one _ _ rfl rfl _ 20 rfl HK9.out Tryz.underlying29 rfl rfl ?_) | ((with_reducible refine atC w8 ?_); go_at_call 72; go_must (refine (pW_any b r8 G8 lw writes w0 w8 HP8.out (by have := HL8.out; omega) (by have := HFC.out.writes; simp only at this; omega) HPC.out.writes HAT.out.w HB8.out HBB.out HR8.out).mono ?_; intro e w9 h; unfold S2.Laid at h; obtain ⟨rfl, r9, hp1, hs1⟩ := h; have hs6 := hs1; obtain ⟨G9, hG⟩ : ∃ g, g = G8 ++ cW.list.lay writes := ⟨_, rfl⟩; rw [← hG] at hp1; have HE9 := Lib.hid hG; have HL9 : Hid (G9.length ≤ 66001107) := Lib.hid (show G9.length ≤ 66001107 from by have z1 := HL8.out; have z2 := HLW.out; rw [hG]; simp only [List.length_append]; omega); have HP9 := Lib.hid hp1; have HK9 := Lib.hid ((hs6.keeps.block w.heap.size HZ8.out HX8.out).trans HK8.out); have HX9 := Lib.hid (hs6.free HX8.out HZ8.out); have HZ9 : Hid (w.heap.size < w9.heap.size) := Lib.hid (Nat.lt_of_lt_of_le HZ8.out hs6.keeps.size); have hpb := pen_belowP (B := w0.heap.size) hs6 HB8.out.size HBB.out HR8.out; have HB9 : Hid (Below w0.heap.size w0 w9) := Lib.hid (HB8.out.trans hpb.1); have HR9 := Lib.hid hpb.2; clear hpb; have HS9 := Lib.hid (HS8.out.trans hs6); clear hp1 hs1 hs6 hG)) | (with_reducible refine atW w8 ?_; refine wpList_load_one _ _ rfl rfl _ 19 rfl HK8.out Tryz.underlying28 rfl rfl ?_) | ((with_reducible refine atC w7 ?_); go_at_call 71; go_must (refine (pV_any b r7 G7 (gone, (t1, t2), vdeps) lv w0 w7 HP7.out (by have := HL7.out; omega) HAT.out.v HFC.out.vdeps HB7.out HBB.out HR7.out).mono ?_; intro e w8 h; unfold S2.Laid at h; obtain ⟨rfl, r8, hp1, hs1⟩ := h; have hs6 := hs1; obtain ⟨G8, hG⟩ : ∃ g, g = G7 ++ cV.lay (gone, (t1, t2), vdeps) := ⟨_, rfl⟩; rw [← hG] at hp1; have HE8 := Lib.hid hG; have HL8 : Hid (G8.length ≤ 45001107) := Lib.hid (show G8.length ≤ 45001107 from by have z1 := HL7.out; have z2 := cV_le (v := (gone, (t1, t2), vdeps)) HFC.out.vdeps; rw [hG]; simp only [List.length_append]; omega); have HP8 := Lib.hid hp1; have HK8 := Lib.hid ((hs6.keeps.block w.heap.size HZ7.out HX7.out).trans HK7.out); have HX8 := Lib.hid (hs6.free HX7.out HZ7.out); have HZ8 : Hid (w.heap.size < w8.heap.size) := Lib.hid (Nat.lt_of_lt_of_le HZ7.out hs6.keeps.size); have hpb := pen_belowP (B := w0.heap.size) hs6 HB7.out.size HBB.out HR7.out; have HB8 : Hid (Below w0.heap.size w0 w8) := Lib.hid (HB7.out.trans hpb.1); have HR8 := Lib.hid hpb.2; clear hpb; have HS8 := Lib.hid (HS7.out.trans hs6); clear hp1 hs1 hs6 hG)) | (with_reducible refine atW w7 ?_; refine wpList_load_part _ _ rfl rfl _ 15 rfl HK7.out Tryz.underlying27 rfl #[.bool gone, .int .i64 t1, .int .i64 t2, lv] (by kernel_rfl) (four_at rfl rfl rfl rfl) ?_))
 go_end0
 refine ⟨rfl, r10, ?_, HS10.out⟩
 have h := HP10.out
 rw [HE10.out, HE9.out, HE8.out, HE7.out, HE6.out, HE5.out, HE4.out, HE3.out, HE2.out, HE1.out] at h
 have e : B ++ (S2.i8 kind ++ (S2.i8 frm ++ S2.i8 dst)) ++ (S2.st (id1, id2) ++ (S2.st (b1, b2) ++ S2.st (a1, a2))) ++ layP ops ++ S2.tb fast ++ SD.layD (SD.toD dF) ++ S2.tb has ++ S2.st (q1, q2) ++ cV.lay (gone, (t1, t2), vdeps) ++ cW.list.lay writes ++ cP.list.lay pairs = B ++ bodyM ⟨kind, frm, dst, (id1, id2), (b1, b2), (a1, a2), ops, fast, SD.toD dF, has, (q1, q2), (gone, (t1, t2), vdeps), writes, pairs⟩ := by
  rw [bodyM_is]
  show _ = B ++ (S2.i8 kind ++ (S2.i8 frm ++ (S2.i8 dst ++ (S2.st (id1, id2) ++ (S2.st (b1, b2) ++ (S2.st (a1, a2) ++ (cO.list.lay ops ++ (S2.tb fast ++ (cDs.lay (SD.toD dF) ++ (S2.tb has ++ (S2.st (q1, q2) ++ (cV.lay (gone, (t1, t2), vdeps) ++ (cW.list.lay writes ++ cP.list.lay pairs)))))))))))))
  rw [show cDs.lay (SD.toD dF) = SD.layD (SD.toD dF) from SD.cD_layD _, cOs_lay]
  simp only [List.append_assoc]
 rw [← e]
 exact h

theorem body_le {m : Mg} (hf : FewM m) (hk : PutM m) : (bodyM m).length ≤ 100000000 := by
 rw [bodyM_is]
 show (S2.i8 m.kind ++ (S2.i8 m.frm ++ (S2.i8 m.dst ++ (S2.st m.id ++ (S2.st m.bal ++ (S2.st m.at_ ++ (cO.list.lay m.ops ++ (S2.tb m.fast ++ (cDs.lay m.deps ++ (S2.tb m.has ++ (S2.st m.acc ++ (cV.lay m.val ++ (cW.list.lay m.writes ++ cP.list.lay m.pairs))))))))))))).length ≤ _
 rw [show cDs.lay m.deps = SD.layD m.deps from SD.cD_layD _, cOs_lay]
 have h1 : (layP m.ops).length ≤ 41000000 := by
  have h1 := layO_len_le m.ops hk.ops
  have h2 := hf.ops
  unfold layP
  rw [List.length_append, S2.i8_length]
  omega
 have h2 : (cW.list.lay m.writes).length ≤ 21000000 := by
  show (S2.i8 _ ++ m.writes.flatMap cW.lay).length ≤ _
  have h1 := cW_len_le m.writes hk.writes
  have h2 := hf.writes
  rw [List.length_append, S2.i8_length]
  omega
 have h3 : (cP.list.lay m.pairs).length ≤ 21000000 := by
  show (S2.i8 _ ++ m.pairs.flatMap cP.lay).length ≤ _
  have h1 := cP_len_le m.pairs hk.pairs
  have h2 := hf.pairs
  rw [List.length_append, S2.i8_length]
  omega
 have h4 := layD_le hf.deps
 have h5 := cV_le hf.vdeps
 have h6 := bool_len m.fast
 have h7 := bool_len m.has
 simp only [List.length_append, S2.i8_length, S2.st_length]
 omega
theorem wsum_any (v : Value) (l : List UInt8) (W : World) (h : Calls Tryz.prog 158 #[v] W fun e w' => e = .returned (.int .u64 (S2.sumL l)) ∧ W = w') : Calls Tryz.prog 98 #[v] W fun e w' => e = .returned (.int .i64 (sumN l)) ∧ W = w' := by
 unfold sumN
 generalize S2.sumL l = s at *
 go_enter Tryz.func98, Tryz.ntmps98
 go_wp2_with (first | (go_at_call 158; go_must (refine h.mono ?_; rintro e w1 ⟨rfl, rfl⟩)))
 go_ret
 exact ⟨rfl, rfl⟩
def RetPut (w : World) (m : Mg) (e : Ending) (w' : World) : Prop := if checkMB m = true then (∃ v g, e = .returned (.tuple #[v, .int .i64 0]) ∧ S2.Row w' g v (layM m) ∧ S2.New w g ∧ Below w.heap.size w w') else e = .returned (.tuple #[.slice none 0 0, .int .i64 130]) ∧ Below w.heap.size w w'
theorem put13_no (m : Mg) (l : PlM) (w : World) (h : MsAt w m l) (hf : FewM m) (hck : checkMB m = false) (hw : (Lit.int .i64 m.kind).wf = true) : Calls Tryz.prog 33 #[msV m l] w fun e w' => e = .returned (.tuple #[.slice none 0 0, .int .i64 130]) ∧ Below w.heap.size w w' := by
 have HCK := Lib.hid (fun (Y : World) (hY : Below w.heap.size w Y) => check13_any m l Y (h.later hY) hf hw)
 have HLY : Hid (layM m = bodyM m ++ S2.i8 (sumN (bodyM m))) := Lib.hid rfl
 unfold checkM at HCK
 rw [hck] at HCK
 generalize layM m = LM at *
 generalize bodyM m = BM at *
 obtain ⟨kind, frm, dst, ⟨id1, id2⟩, ⟨b1, b2⟩, ⟨a1, a2⟩, ops, fast, deps, has, ⟨q1, q2⟩, ⟨gone, ⟨t1, t2⟩, vdeps⟩, writes, pairs⟩ := m
 obtain ⟨lo, ld, lv, lw, lp⟩ := l
 simp only [msV] at HCK ⊢
 simp only [Bool.false_eq_true, if_false] at HCK
 clear h hf hw hck
 go_enter Tryz.func33, Tryz.ntmps33
 go_wp2_with (first | go_skip | ((with_reducible refine atW (w.alloc (.cells #[.int .i64 kind, .int .i64 frm, .int .i64 dst, .int .i64 id1, .int .i64 id2, .int .i64 b1, .int .i64 b2, .int .i64 a1, .int .i64 a2, lo, .bool fast, ld, .bool has, .int .i64 q1, .int .i64 q2, .bool gone, .int .i64 t1, .int .i64 t2, lv, lw, lp] 61)) ?_); refine loadM _ rfl rfl _ rfl (new_blockC w _ _) rfl ?_) | (go_at_call 38; go_must (refine (HCK.out _ (blAlloc (Below.refl _ _) _)).mono ?_; rintro e w1 ⟨rfl, h5⟩; have HB1 : Hid (Below w.heap.size w w1) := Lib.hid (blThen (blAlloc (Below.refl _ _) _) h5); have KM1 := Lib.hid ((h5.block w.heap.size (by simp)).trans (new_blockC w _ _)); clear h5)))
 refine bodyPost_ret (results_tmp2 rfl _ _ _) rfl ?_
 exact ⟨rfl, HB1.out⟩
theorem put13_yes (m : Mg) (l : PlM) (w : World) (h : MsAt w m l) (hf : FewM m) (hck : checkMB m = true) (hk : PutM m) (hw : (Lit.int .i64 m.kind).wf = true) : Calls Tryz.prog 33 #[msV m l] w fun e w' => ∃ v g, e = .returned (.tuple #[v, .int .i64 0]) ∧ S2.Row w' g v (layM m) ∧ S2.New w g ∧ Below w.heap.size w w' := by
 have HLA := Lib.hid (fun (b : Nat) (r : Option Nat) (B : List UInt8) (Y : World) hp hl hb h0 hr => layM_any b r B m l w Y hp hl h hf hk hb h0 hr)
 have HBL : Hid ((bodyM m).length ≤ 100000000) := Lib.hid (body_le hf hk)
 have HCK := Lib.hid (fun (Y : World) (hY : Below w.heap.size w Y) => check13_any m l Y (h.later hY) hf hw)
 have HLY : Hid (layM m = bodyM m ++ S2.i8 (sumN (bodyM m))) := Lib.hid rfl
 unfold checkM at HCK
 rw [hck] at HCK
 generalize layM m = LM at *
 generalize bodyM m = BM at *
 obtain ⟨kind, frm, dst, ⟨id1, id2⟩, ⟨b1, b2⟩, ⟨a1, a2⟩, ops, fast, deps, has, ⟨q1, q2⟩, ⟨gone, ⟨t1, t2⟩, vdeps⟩, writes, pairs⟩ := m
 obtain ⟨lo, ld, lv, lw, lp⟩ := l
 simp only [msV] at HCK HLA ⊢
 simp only [if_true] at HCK
 clear h hf hk hw hck
 have HA1 : Hid (∀ Y : World, Below Y.heap.size Y (Y.alloc (.cells #[.slice none 0 0] 110))) := Lib.hid (fun Y => blAlloc (Below.refl _ _) _)
 go_enter Tryz.func33, Tryz.ntmps33
 go_upto_region 6 with (first | go_skip | ((with_reducible refine atW (w1.alloc (.cells #[.slice none 0 0] 110)) ?_); refine loadM _ rfl rfl _ rfl (((HA1.out w1).block w.heap.size (lt_of_block KM1.out)).trans KM1.out) rfl ?_) | (go_at_call 97; go_must (refine (HLA.out w1.heap.size none [] (w1.alloc (.cells #[.slice none 0 0] 110)) (pen_new9 w1 _) (by simp) (HB1.out.trans ((HA1.out w1).mono HB1.out.size)) HB1.out.size (fun k hk => by cases hk)).mono ?_; intro e w2 h; unfold S2.Laid at h; obtain ⟨rfl, r2, hp2, hs2⟩ := h; have hpb := pen_belowP (B := w.heap.size) hs2 (Nat.le_trans HB1.out.size (HA1.out w1).size) HB1.out.size (fun k hk => by cases hk); have HB2 : Hid (Below w.heap.size w w2) := Lib.hid ((HB1.out.trans ((HA1.out w1).mono HB1.out.size)).trans hpb.1); have HR2 := Lib.hid hpb.2; rw [List.nil_append] at hp2; have HP2 := Lib.hid hp2; clear hp2 hs2 hpb)) | ((with_reducible refine atW (w.alloc (.cells #[.int .i64 kind, .int .i64 frm, .int .i64 dst, .int .i64 id1, .int .i64 id2, .int .i64 b1, .int .i64 b2, .int .i64 a1, .int .i64 a2, lo, .bool fast, ld, .bool has, .int .i64 q1, .int .i64 q2, .bool gone, .int .i64 t1, .int .i64 t2, lv, lw, lp] 61)) ?_); refine loadM _ rfl rfl _ rfl (new_blockC w _ _) rfl ?_) | (go_at_call 38; go_must (refine (HCK.out _ (blAlloc (Below.refl _ _) _)).mono ?_; rintro e w1 ⟨rfl, h5⟩; have HB1 : Hid (Below w.heap.size w w1) := Lib.hid (blThen (blAlloc (Below.refl _ _) _) h5); have KM1 := Lib.hid ((h5.block w.heap.size (by simp)).trans (new_blockC w _ _)); clear h5)))
 go_region_held3 (fun Y => True) (trivial) (first
  | (go_at_call 74; go_must (refine (S2.bytes_any _ w1.heap.size r2 BM (HP2.out.before (S2.kDrew (S2.Keeps.refl _ _))) (by have := HBL.out; omega)).mono ?_; intro e w3 h; unfold S2.Made at h; obtain ⟨v3, g3, rfl, h1, h2, h3⟩ := h; have HB3 : Hid (Below w.heap.size w w3) := Lib.hid (blThen HB2.out.drew h3); have HP3 := Lib.hid (HP2.out.before ((S2.kDrew (S2.Keeps.refl (fun _ => False) _)).then (S2.Keeps.ofBelow h3))); have HR3 := Lib.hid h1; clear h1 h2 h3))
  | (go_at_call 98; go_must (refine (wsum_any v3 BM _ (S2.sum_any _ _ _ _ HR3.out.bs)).mono ?_; rintro e w4 ⟨rfl, rfl⟩))
  | (go_at_call 68; go_must (refine (S2.int_any _ w1.heap.size r2 BM w3.heap.size _ 1 [sumN BM] (HP3.out.before (S2.kAlloc (S2.Keeps.refl _ _) _)) (S2.one_new w3 _ _ rfl _ rfl) (HP3.out.apart (Nat.le_refl _)) (by have := HBL.out; simp only [List.length_cons, List.length_nil]; omega)).mono ?_; rw [i8_oneP]; intro e w5 h; unfold S2.Laid at h; obtain ⟨rfl, r5, hp5, hs5⟩ := h; have HP5 := Lib.hid hp5; have hpb := pen_belowP (B := w.heap.size) (hs5.before (w := w3) (S2.kAlloc (S2.Keeps.refl _ _) _)) HB3.out.size HB1.out.size HR2.out; have HB5 : Hid (Below w.heap.size w w5) := Lib.hid (HB3.out.trans hpb.1); clear hp5 hs5 hpb)))
 go_wp2_with (first | (go_at_call 74; go_must (refine (S2.bytes_any _ w1.heap.size r5 _ HP5.out (by have := HBL.out; simp only [List.length_append, S2.i8_length]; omega)).mono ?_; intro e wf h; unfold S2.Made at h; obtain ⟨v, g, rfl, h1, h2, h3⟩ := h; have H1 := Lib.hid h1; have H2 := Lib.hid h2; have H3 := Lib.hid h3; clear h1 h2 h3)))
 refine bodyPost_ret (results_tmp2 rfl _ _ _) rfl ?_
 exact ⟨v, g, rfl, by rw [HLY.out]; exact H1.out, fun k hk => Nat.le_trans HB5.out.size (H2.out k hk), blThen HB5.out H3.out⟩
theorem put13_any (m : Mg) (l : PlM) (w : World) (h : MsAt w m l) (hf : FewM m) (hk : checkMB m = true → PutM m) (hw : (Lit.int .i64 m.kind).wf = true) : Calls Tryz.prog 33 #[msV m l] w (RetPut w m) := by
 unfold RetPut
 cases hck : checkMB m
 ·refine (put13_no m l w h hf hck hw).mono fun e w' hh => ?_
  rw [if_neg (by simp)]
  exact hh
 ·refine (put13_yes m l w h hf hck (hk hck) hw).mono fun e w' hh => ?_
  rw [if_pos rfl]
  exact hh

structure MsOwn (B : Nat) (W : World) (m : Mg) (l : PlM) : Prop where
 o : OwnG eO 79 W B l.o m.ops
 d : DlO B W l.d m.deps
 v : DlO B W l.v m.val.2.2
 w : OwnG eW 84 W B l.w m.writes
 p : OwnG eP 86 W B l.p m.pairs
theorem MsOwn.at {B : Nat} {w : World} {m : Mg} {l : PlM} (h : MsOwn B w m l) : MsAt w m l := ⟨h.o.sl, h.d.dl, h.v.dl, h.w.sl, h.p.sl⟩
theorem MsOwn.kp {B : Nat} {w w' : World} {m : Mg} {l : PlM} (h : MsOwn B w m l) (k : S2.Keeps (fun x => x < B) w w') : MsOwn B w' m l := ⟨ownG_kp h.o k, h.d.kp k, h.v.kp k, ownG_kp h.w k, ownG_kp h.p k⟩
theorem MsOwn.mono {B C : Nat} {w : World} {m : Mg} {l : PlM} (h : MsOwn B w m l) (hc : C ≤ B) : MsOwn C w m l := ⟨h.o.mono hc, h.d.mono hc, h.v.mono hc, h.w.mono hc, h.p.mono hc⟩
def SeeMs (w : World) (s b g : Nat) (c : Cur) (e : Ending) (w' : World) : Prop := ∃ l, e = .returned (msV (mgOf (cM.val c)) l) ∧ MsOwn w.heap.size w' (mgOf (cM.val c)) l ∧ EyeS w' s b g (cM.fin c) ∧ S2.Keeps (Both s b) w w'
theorem readM_any {w : World} {s b g : Nat} {c : Cur} (he : EyeS w s b g c) (hlen : c.1.length ≤ 1000000) : Calls Tryz.prog 101 #[.pointer (some ⟨s, 0, none⟩)] w (SeeMs w s b g c) := by
 have HLT := Lib.hid he.lt
 have HLN := Lib.hid hlen
 have HL0 : Hid (c.1.length ≤ c.1.length) := Lib.hid (Nat.le_refl _)
 have HN := Lib.hid (fun i o (h : ([(.cells #[.int .i64 0, .int .i64 0, .int .i64 0, .int .i64 0, .int .i64 0, .int .i64 0, .int .i64 0, .int .i64 0, .int .i64 0, .slice none 0 0, .bool false, .slice none 0 0, .bool false, .int .i64 0, .int .i64 0, .bool false, .int .i64 0, .int .i64 0, .slice none 0 0, .slice none 0 0, .slice none 0 0] 61), (.cells #[.int .i64 0, .int .i64 0, .int .i64 0, .int .i64 0, .int .i64 0, .int .i64 0, .int .i64 0, .int .i64 0, .int .i64 0, .slice none 0 0, .bool false, .slice none 0 0, .bool false, .int .i64 0, .int .i64 0, .bool false, .int .i64 0, .int .i64 0, .slice none 0 0, .slice none 0 0, .slice none 0 0] 61)] : List Obj)[i]? = some o) => nth_box w [(.cells #[.int .i64 0, .int .i64 0, .int .i64 0, .int .i64 0, .int .i64 0, .int .i64 0, .int .i64 0, .int .i64 0, .int .i64 0, .slice none 0 0, .bool false, .slice none 0 0, .bool false, .int .i64 0, .int .i64 0, .bool false, .int .i64 0, .int .i64 0, .slice none 0 0, .slice none 0 0, .slice none 0 0] 61), (.cells #[.int .i64 0, .int .i64 0, .int .i64 0, .int .i64 0, .int .i64 0, .int .i64 0, .int .i64 0, .int .i64 0, .int .i64 0, .slice none 0 0, .bool false, .slice none 0 0, .bool false, .int .i64 0, .int .i64 0, .bool false, .int .i64 0, .int .i64 0, .slice none 0 0, .slice none 0 0, .slice none 0 0] 61)] i o h)
 have hw0 : (w.heap.size + 2) ≤ ((w.alloc (.cells #[.int .i64 0, .int .i64 0, .int .i64 0, .int .i64 0, .int .i64 0, .int .i64 0, .int .i64 0, .int .i64 0, .int .i64 0, .slice none 0 0, .bool false, .slice none 0 0, .bool false, .int .i64 0, .int .i64 0, .bool false, .int .i64 0, .int .i64 0, .slice none 0 0, .slice none 0 0, .slice none 0 0] 61)).alloc (.cells #[.int .i64 0, .int .i64 0, .int .i64 0, .int .i64 0, .int .i64 0, .int .i64 0, .int .i64 0, .int .i64 0, .int .i64 0, .slice none 0 0, .bool false, .slice none 0 0, .bool false, .int .i64 0, .int .i64 0, .bool false, .int .i64 0, .int .i64 0, .slice none 0 0, .slice none 0 0, .slice none 0 0] 61)).heap.size := Nat.le_of_eq (HN.out 0 _ rfl).2
 have Kr0 : Hid (((w.alloc (.cells #[.int .i64 0, .int .i64 0, .int .i64 0, .int .i64 0, .int .i64 0, .int .i64 0, .int .i64 0, .int .i64 0, .int .i64 0, .slice none 0 0, .bool false, .slice none 0 0, .bool false, .int .i64 0, .int .i64 0, .bool false, .int .i64 0, .int .i64 0, .slice none 0 0, .slice none 0 0, .slice none 0 0] 61)).alloc (.cells #[.int .i64 0, .int .i64 0, .int .i64 0, .int .i64 0, .int .i64 0, .int .i64 0, .int .i64 0, .int .i64 0, .int .i64 0, .slice none 0 0, .bool false, .slice none 0 0, .bool false, .int .i64 0, .int .i64 0, .bool false, .int .i64 0, .int .i64 0, .slice none 0 0, .slice none 0 0, .slice none 0 0] 61)).heap[w.heap.size]? = some (.cells #[.int .i64 0, .int .i64 0, .int .i64 0, .int .i64 0, .int .i64 0, .int .i64 0, .int .i64 0, .int .i64 0, .int .i64 0, .slice none 0 0, .bool false, .slice none 0 0, .bool false, .int .i64 0, .int .i64 0, .bool false, .int .i64 0, .int .i64 0, .slice none 0 0, .slice none 0 0, .slice none 0 0] 61 (0, 0))) := Lib.hid (HN.out 0 _ rfl).1
 have Kc0 : Hid (((w.alloc (.cells #[.int .i64 0, .int .i64 0, .int .i64 0, .int .i64 0, .int .i64 0, .int .i64 0, .int .i64 0, .int .i64 0, .int .i64 0, .slice none 0 0, .bool false, .slice none 0 0, .bool false, .int .i64 0, .int .i64 0, .bool false, .int .i64 0, .int .i64 0, .slice none 0 0, .slice none 0 0, .slice none 0 0] 61)).alloc (.cells #[.int .i64 0, .int .i64 0, .int .i64 0, .int .i64 0, .int .i64 0, .int .i64 0, .int .i64 0, .int .i64 0, .int .i64 0, .slice none 0 0, .bool false, .slice none 0 0, .bool false, .int .i64 0, .int .i64 0, .bool false, .int .i64 0, .int .i64 0, .slice none 0 0, .slice none 0 0, .slice none 0 0] 61)).heap[(w.heap.size + 1)]? = some (.cells #[.int .i64 0, .int .i64 0, .int .i64 0, .int .i64 0, .int .i64 0, .int .i64 0, .int .i64 0, .int .i64 0, .int .i64 0, .slice none 0 0, .bool false, .slice none 0 0, .bool false, .int .i64 0, .int .i64 0, .bool false, .int .i64 0, .int .i64 0, .slice none 0 0, .slice none 0 0, .slice none 0 0] 61 (0, 0))) := Lib.hid (HN.out 1 _ rfl).1
 have HE0 : Hid (EyeS ((w.alloc (.cells #[.int .i64 0, .int .i64 0, .int .i64 0, .int .i64 0, .int .i64 0, .int .i64 0, .int .i64 0, .int .i64 0, .int .i64 0, .slice none 0 0, .bool false, .slice none 0 0, .bool false, .int .i64 0, .int .i64 0, .bool false, .int .i64 0, .int .i64 0, .slice none 0 0, .slice none 0 0, .slice none 0 0] 61)).alloc (.cells #[.int .i64 0, .int .i64 0, .int .i64 0, .int .i64 0, .int .i64 0, .int .i64 0, .int .i64 0, .int .i64 0, .int .i64 0, .slice none 0 0, .bool false, .slice none 0 0, .bool false, .int .i64 0, .int .i64 0, .bool false, .int .i64 0, .int .i64 0, .slice none 0 0, .slice none 0 0, .slice none 0 0] 61)) s b g c) := Lib.hid (he.before (S2.kAlloc (S2.kAlloc (S2.Keeps.refl _ _) _) _))
 have HK0 : Hid (S2.Keeps (Both s b) w ((w.alloc (.cells #[.int .i64 0, .int .i64 0, .int .i64 0, .int .i64 0, .int .i64 0, .int .i64 0, .int .i64 0, .int .i64 0, .int .i64 0, .slice none 0 0, .bool false, .slice none 0 0, .bool false, .int .i64 0, .int .i64 0, .bool false, .int .i64 0, .int .i64 0, .slice none 0 0, .slice none 0 0, .slice none 0 0] 61)).alloc (.cells #[.int .i64 0, .int .i64 0, .int .i64 0, .int .i64 0, .int .i64 0, .int .i64 0, .int .i64 0, .int .i64 0, .int .i64 0, .slice none 0 0, .bool false, .slice none 0 0, .bool false, .int .i64 0, .int .i64 0, .bool false, .int .i64 0, .int .i64 0, .slice none 0 0, .slice none 0 0, .slice none 0 0] 61))) := Lib.hid (S2.kAlloc (S2.kAlloc (S2.Keeps.refl _ _) _) _)
 have p0 := HE0.out.ptr
 clear he hlen HN
 go_enter Tryz.func101, Tryz.ntmps101
 go_upto_region 2 with fail
 generalize ((w.alloc (.cells #[.int .i64 0, .int .i64 0, .int .i64 0, .int .i64 0, .int .i64 0, .int .i64 0, .int .i64 0, .int .i64 0, .int .i64 0, .slice none 0 0, .bool false, .slice none 0 0, .bool false, .int .i64 0, .int .i64 0, .bool false, .int .i64 0, .int .i64 0, .slice none 0 0, .slice none 0 0, .slice none 0 0] 61)).alloc (.cells #[.int .i64 0, .int .i64 0, .int .i64 0, .int .i64 0, .int .i64 0, .int .i64 0, .int .i64 0, .int .i64 0, .int .i64 0, .slice none 0 0, .bool false, .slice none 0 0, .bool false, .int .i64 0, .int .i64 0, .bool false, .int .i64 0, .int .i64 0, .slice none 0 0, .slice none 0 0, .slice none 0 0] 61)) = wz at *
 refine wp_region_held_drew (S := fun Y => Y.cell? ⟨s, 0, none⟩ = some (.pointer (some ⟨b, 0, none⟩))) (by kernel_rfl) (p0) (fun hHeld => ?_)
 have HE1 : Hid (EyeS wz.drew s b g c) := Lib.hid (HE0.out.before (S2.kDrew (S2.Keeps.refl _ _)))
 have HK1 : Hid (S2.Keeps (Both s b) w wz.drew) := Lib.hid (HK0.out.then (S2.kDrew (S2.Keeps.refl _ _)))
 have HL1 := HL0
 have hw1 : (w.heap.size + 2) ≤ wz.drew.heap.size := hw0
 have p1 := HE1.out.ptr
 have Kr1 : Hid (wz.drew.heap[w.heap.size]? = some (.cells #[.int .i64 0, .int .i64 0, .int .i64 0, .int .i64 0, .int .i64 0, .int .i64 0, .int .i64 0, .int .i64 0, .int .i64 0, .slice none 0 0, .bool false, .slice none 0 0, .bool false, .int .i64 0, .int .i64 0, .bool false, .int .i64 0, .int .i64 0, .slice none 0 0, .slice none 0 0, .slice none 0 0] 61 (0, 0))) := Kr0
 have Kc1 : Hid (wz.drew.heap[(w.heap.size + 1)]? = some (.cells #[.int .i64 0, .int .i64 0, .int .i64 0, .int .i64 0, .int .i64 0, .int .i64 0, .int .i64 0, .int .i64 0, .int .i64 0, .slice none 0 0, .bool false, .slice none 0 0, .bool false, .int .i64 0, .int .i64 0, .bool false, .int .i64 0, .int .i64 0, .slice none 0 0, .slice none 0 0, .slice none 0 0] 61 (0, 0))) := Kc0
 generalize wz.drew = w1 at *
 refine wpAnyH_take (i := 0) (oi := ⟨_, _, _, _, _, _⟩) (v := ?_) rfl (by kernel_rfl) (by kernel_rfl) (by kernel_rfl) (fun _ _ _ h => h) (Or.inl ⟨by rfl, ?_⟩) (by assumption) ?_
 rotate_left
 ·intro w hSw
  try dsimp only at hSw
  go_simp
  try with_reducible rfl
 try simp only [Act.put, List.setIfInBounds_toArray, List.set_cons_zero, List.set_cons_succ]
 refine wpAnyH_take (i := 1) (oi := ⟨_, _, _, _, _, _⟩) (v := ?_) rfl (by kernel_rfl) (by kernel_rfl) (by kernel_rfl) (fun _ _ _ h => h) (Or.inl ⟨by rfl, ?_⟩) (by assumption) ?_
 rotate_left
 ·intro w hSw
  try dsimp only at hSw
  go_simp
  try with_reducible rfl
 try simp only [Act.put, List.setIfInBounds_toArray, List.set_cons_zero, List.set_cons_succ]
 refine wpAnyH_take (i := 2) (oi := ⟨_, _, _, _, _, _⟩) (v := ?_) rfl (by kernel_rfl) (by kernel_rfl) (by kernel_rfl) (fun _ _ _ h => h) (Or.inl ⟨by rfl, ?_⟩) (by assumption) ?_
 rotate_left
 ·intro w hSw
  try dsimp only at hSw
  go_simp
  try with_reducible rfl
 try simp only [Act.put, List.setIfInBounds_toArray, List.set_cons_zero, List.set_cons_succ]
 refine wpAnyH_take (i := 3) (oi := ⟨_, _, _, _, _, _⟩) (v := ?_) rfl (by kernel_rfl) (by kernel_rfl) (by kernel_rfl) (fun _ _ _ h => h) (Or.inl ⟨by rfl, ?_⟩) (by assumption) ?_
 rotate_left
 ·intro w hSw
  try dsimp only at hSw
  go_simp
  try with_reducible rfl
 try simp only [Act.put, List.setIfInBounds_toArray, List.set_cons_zero, List.set_cons_succ]
 refine wpAnyH_take (i := 5) (oi := ⟨_, _, _, _, _, _⟩) (v := ?_) rfl (by kernel_rfl) (by kernel_rfl) (by kernel_rfl) (fun _ _ _ h => h) (Or.inl ⟨by rfl, ?_⟩) (by assumption) ?_
 rotate_left
 ·intro w hSw
  try dsimp only at hSw
  go_simp
  try with_reducible rfl
 try simp only [Act.put, List.setIfInBounds_toArray, List.set_cons_zero, List.set_cons_succ]
 refine wpAnyH_take (i := 6) (oi := ⟨_, _, _, _, _, _⟩) (v := ?_) rfl (by kernel_rfl) (by kernel_rfl) (by kernel_rfl) (fun _ _ _ h => h) (Or.inl ⟨by rfl, ?_⟩) (by assumption) ?_
 rotate_left
 ·intro w hSw
  try dsimp only at hSw
  go_simp
  try with_reducible rfl
 try simp only [Act.put, List.setIfInBounds_toArray, List.set_cons_zero, List.set_cons_succ]
 refine wpAnyH_take (i := 7) (oi := ⟨_, _, _, _, _, _⟩) (v := ?_) rfl (by kernel_rfl) (by kernel_rfl) (by kernel_rfl) (fun _ _ _ h => h) (Or.inl ⟨by rfl, ?_⟩) (by assumption) ?_
 rotate_left
 ·intro w hSw
  try dsimp only at hSw
  go_simp
  try with_reducible rfl
 try simp only [Act.put, List.setIfInBounds_toArray, List.set_cons_zero, List.set_cons_succ]
 refine wpAnyH_take (i := 8) (oi := ⟨_, _, _, _, _, _⟩) (v := ?_) rfl (by kernel_rfl) (by kernel_rfl) (by kernel_rfl) (fun _ _ _ h => h) (Or.inl ⟨by rfl, ?_⟩) (by assumption) ?_
 rotate_left
 ·intro w hSw
  try dsimp only at hSw
  go_simp
  try with_reducible rfl
 try simp only [Act.put, List.setIfInBounds_toArray, List.set_cons_zero, List.set_cons_succ]
 refine wpAnyH_take (i := 10) (oi := ⟨_, _, _, _, _, _⟩) (v := ?_) rfl (by kernel_rfl) (by kernel_rfl) (by kernel_rfl) (fun _ _ _ h => h) (Or.inl ⟨by rfl, ?_⟩) (by assumption) ?_
 rotate_left
 ·intro w hSw
  try dsimp only at hSw
  go_simp
  try with_reducible rfl
 try simp only [Act.put, List.setIfInBounds_toArray, List.set_cons_zero, List.set_cons_succ]
 refine wpAnyH_take (i := 11) (oi := ⟨_, _, _, _, _, _⟩) (v := ?_) rfl (by kernel_rfl) (by kernel_rfl) (by kernel_rfl) (fun _ _ _ h => h) (Or.inl ⟨by rfl, ?_⟩) (by assumption) ?_
 rotate_left
 ·intro w hSw
  try dsimp only at hSw
  go_simp
  try with_reducible rfl
 try simp only [Act.put, List.setIfInBounds_toArray, List.set_cons_zero, List.set_cons_succ]
 refine wpAnyH_take (i := 12) (oi := ⟨_, _, _, _, _, _⟩) (v := ?_) rfl (by kernel_rfl) (by kernel_rfl) (by kernel_rfl) (fun _ _ _ h => h) (Or.inl ⟨by rfl, ?_⟩) (by assumption) ?_
 rotate_left
 ·intro w hSw
  try dsimp only at hSw
  go_simp
  try with_reducible rfl
 try simp only [Act.put, List.setIfInBounds_toArray, List.set_cons_zero, List.set_cons_succ]
 refine wpAnyH_take (i := 13) (oi := ⟨_, _, _, _, _, _⟩) (v := ?_) rfl (by kernel_rfl) (by kernel_rfl) (by kernel_rfl) (fun _ _ _ h => h) (Or.inl ⟨by rfl, ?_⟩) (by assumption) ?_
 rotate_left
 ·intro w hSw
  try dsimp only at hSw
  go_simp
  try with_reducible rfl
 try simp only [Act.put, List.setIfInBounds_toArray, List.set_cons_zero, List.set_cons_succ]
 refine wpAnyH_ready (rs := [4]) (by kernel_rfl) (by simp) ?_
 refine AllReadyH.cons (o := ⟨_, _, _, _, _, _⟩) rfl (fun K hK => ?_) ?_
 rotate_left
 ·exact AllReadyH.nil
 go_simp
 ((with_reducible refine atC w1 ?_); go_at_call 103; go_must (refine (sint_any HE1.out).mono ?_; intro e w2 h; unfold SeeS at h; obtain ⟨rfl, he1, hk1⟩ := h; have hk2 := (both_of (s := s) hk1); obtain ⟨c2, hc2⟩ : ∃ x, x = cI.fin c := ⟨_, rfl⟩; obtain ⟨v2, hv2⟩ : ∃ x, x = cI.val c := ⟨_, rfl⟩; rw [← hc2] at he1; rw [← hv2] at ⊢; have HE2 := Lib.hid he1; have p2 := he1.ptr; have HL2 : Hid (c2.1.length ≤ c.1.length) := Lib.hid (by rw [hc2]; exact Nat.le_trans (cI_ok.len c) HL1.out); have HK2 := Lib.hid (HK1.out.then hk2); have hw2 := Nat.le_trans hw1 hk2.size; have Kr2 := Lib.hid ((hk2.block w.heap.size (by omega) (by have := HLT.out.1; have := HLT.out.2.1; rintro (e | e) <;> omega)).trans Kr1.out); have Kc2 := Lib.hid ((hk2.block (w.heap.size + 1) (by omega) (by have := HLT.out.1; have := HLT.out.2.1; rintro (e | e) <;> omega)).trans Kc1.out); have HC2 := Lib.hid hc2; have HV2 := Lib.hid hv2; clear hk1 hk2 he1 hc2 hv2))
 refine hK.out _ _ (p2) (fun hHeld => ?_)
 clear hK K
 try simp only [Act.put, List.setIfInBounds_toArray, List.set_cons_zero, List.set_cons_succ]
 refine wpAnyH_take (i := 15) (oi := ⟨_, _, _, _, _, _⟩) (v := ?_) rfl (by kernel_rfl) (by kernel_rfl) (by kernel_rfl) (fun _ _ _ h => h) (Or.inl ⟨by rfl, ?_⟩) (by assumption) ?_
 rotate_left
 ·intro w hSw
  try dsimp only at hSw
  go_simp
  try with_reducible rfl
 try simp only [Act.put, List.setIfInBounds_toArray, List.set_cons_zero, List.set_cons_succ]
 refine wpAnyH_ready (rs := [9]) (by kernel_rfl) (by simp) ?_
 refine AllReadyH.cons (o := ⟨_, _, _, _, _, _⟩) rfl (fun K hK => ?_) ?_
 rotate_left
 ·exact AllReadyH.nil
 go_simp
 ((with_reducible refine atC w2 ?_); go_at_call 103; go_must (refine (sint_any HE2.out).mono ?_; intro e w3 h; unfold SeeS at h; obtain ⟨rfl, he1, hk1⟩ := h; have hk2 := (both_of (s := s) hk1); obtain ⟨c3, hc3⟩ : ∃ x, x = cI.fin c2 := ⟨_, rfl⟩; obtain ⟨v3, hv3⟩ : ∃ x, x = cI.val c2 := ⟨_, rfl⟩; rw [← hc3] at he1; rw [← hv3] at ⊢; have HE3 := Lib.hid he1; have p3 := he1.ptr; have HL3 : Hid (c3.1.length ≤ c.1.length) := Lib.hid (by rw [hc3]; exact Nat.le_trans (cI_ok.len c2) HL2.out); have HK3 := Lib.hid (HK2.out.then hk2); have hw3 := Nat.le_trans hw2 hk2.size; have Kr3 := Lib.hid ((hk2.block w.heap.size (by omega) (by have := HLT.out.1; have := HLT.out.2.1; rintro (e | e) <;> omega)).trans Kr2.out); have Kc3 := Lib.hid ((hk2.block (w.heap.size + 1) (by omega) (by have := HLT.out.1; have := HLT.out.2.1; rintro (e | e) <;> omega)).trans Kc2.out); have HC3 := Lib.hid hc3; have HV3 := Lib.hid hv3; clear hk1 hk2 he1 hc3 hv3))
 refine hK.out _ _ (p3) (fun hHeld => ?_)
 clear hK K
 try simp only [Act.put, List.setIfInBounds_toArray, List.set_cons_zero, List.set_cons_succ]
 refine wpAnyH_ready (rs := [14]) (by kernel_rfl) (by simp) ?_
 refine AllReadyH.cons (o := ⟨_, _, _, _, _, _⟩) rfl (fun K hK => ?_) ?_
 rotate_left
 ·exact AllReadyH.nil
 go_simp
 ((with_reducible refine atC w3 ?_); go_at_call 103; go_must (refine (sint_any HE3.out).mono ?_; intro e w4 h; unfold SeeS at h; obtain ⟨rfl, he1, hk1⟩ := h; have hk2 := (both_of (s := s) hk1); obtain ⟨c4, hc4⟩ : ∃ x, x = cI.fin c3 := ⟨_, rfl⟩; obtain ⟨v4, hv4⟩ : ∃ x, x = cI.val c3 := ⟨_, rfl⟩; rw [← hc4] at he1; rw [← hv4] at ⊢; have HE4 := Lib.hid he1; have p4 := he1.ptr; have HL4 : Hid (c4.1.length ≤ c.1.length) := Lib.hid (by rw [hc4]; exact Nat.le_trans (cI_ok.len c3) HL3.out); have HK4 := Lib.hid (HK3.out.then hk2); have hw4 := Nat.le_trans hw3 hk2.size; have Kr4 := Lib.hid ((hk2.block w.heap.size (by omega) (by have := HLT.out.1; have := HLT.out.2.1; rintro (e | e) <;> omega)).trans Kr3.out); have Kc4 := Lib.hid ((hk2.block (w.heap.size + 1) (by omega) (by have := HLT.out.1; have := HLT.out.2.1; rintro (e | e) <;> omega)).trans Kc3.out); have HC4 := Lib.hid hc4; have HV4 := Lib.hid hv4; clear hk1 hk2 he1 hc4 hv4))
 refine hK.out _ _ (p4) (fun hHeld => ?_)
 clear hK K
 try simp only [Act.put, List.setIfInBounds_toArray, List.set_cons_zero, List.set_cons_succ]
 refine wpAnyH_ready (rs := [16]) (by kernel_rfl) (by simp) ?_
 refine AllReadyH.cons (o := ⟨_, _, _, _, _, _⟩) rfl (fun K hK => ?_) ?_
 rotate_left
 ·exact AllReadyH.nil
 refine wp_store_part _ _ _ rfl _ 0 rfl rfl (cs := #[.int .i64 v2]) rfl Kc4.out (by kernel_rfl) (by simp) (by simp [Value.oneCell']) (D := #[.int .i64 v2, .int .i64 0, .int .i64 0, .int .i64 0, .int .i64 0, .int .i64 0, .int .i64 0, .int .i64 0, .int .i64 0, .slice none 0 0, .bool false, .slice none 0 0, .bool false, .int .i64 0, .int .i64 0, .bool false, .int .i64 0, .int .i64 0, .slice none 0 0, .slice none 0 0, .slice none 0 0]) rfl ?_
 intro w5 h1 h2
 have Kc5 := Lib.hid h1; have hw5 := Nat.le_trans hw4 h2.size; have HK5 := Lib.hid (keeps_after HK4.out h2 (by omega)); have HE5 := Lib.hid (eyeS_store HE4.out h2 (by have := HLT.out.1; omega) (by have := HLT.out.2.1; omega) (fun hne => by have := HLT.out.2.2 (fun e => hne (nil_of9 HL4.out e)); omega)); have p5 := HE5.out.ptr; have HL5 := HL4; have Kr5 := Lib.hid (grown_other9 Kr4.out h2 (by omega) (by omega)); clear h1 h2
 refine hK.out _ _ (p5) (fun hHeld => ?_)
 clear hK K
 try simp only [Act.put, List.setIfInBounds_toArray, List.set_cons_zero, List.set_cons_succ]
 refine wpAnyH_take (i := 17) (oi := ⟨_, _, _, _, _, _⟩) (v := ?_) rfl (by kernel_rfl) (by kernel_rfl) (by kernel_rfl) (fun _ _ _ h => h) (Or.inl ⟨by rfl, ?_⟩) (by assumption) ?_
 rotate_left
 ·intro w hSw
  try dsimp only at hSw
  go_simp
  try with_reducible rfl
 try simp only [Act.put, List.setIfInBounds_toArray, List.set_cons_zero, List.set_cons_succ]
 refine wpAnyH_ready (rs := [18]) (by kernel_rfl) (by simp) ?_
 refine AllReadyH.cons (o := ⟨_, _, _, _, _, _⟩) rfl (fun K hK => ?_) ?_
 rotate_left
 ·exact AllReadyH.nil
 refine wp_store_part _ _ _ rfl _ 1 rfl rfl (cs := #[.int .i64 v3]) rfl Kc5.out (by kernel_rfl) (by simp) (by simp [Value.oneCell']) (D := #[.int .i64 v2, .int .i64 v3, .int .i64 0, .int .i64 0, .int .i64 0, .int .i64 0, .int .i64 0, .int .i64 0, .int .i64 0, .slice none 0 0, .bool false, .slice none 0 0, .bool false, .int .i64 0, .int .i64 0, .bool false, .int .i64 0, .int .i64 0, .slice none 0 0, .slice none 0 0, .slice none 0 0]) rfl ?_
 intro w6 h1 h2
 have Kc6 := Lib.hid h1; have hw6 := Nat.le_trans hw5 h2.size; have HK6 := Lib.hid (keeps_after HK5.out h2 (by omega)); have HE6 := Lib.hid (eyeS_store HE5.out h2 (by have := HLT.out.1; omega) (by have := HLT.out.2.1; omega) (fun hne => by have := HLT.out.2.2 (fun e => hne (nil_of9 HL5.out e)); omega)); have p6 := HE6.out.ptr; have HL6 := HL5; have Kr6 := Lib.hid (grown_other9 Kr5.out h2 (by omega) (by omega)); clear h1 h2
 refine hK.out _ _ (p6) (fun hHeld => ?_)
 clear hK K
 try simp only [Act.put, List.setIfInBounds_toArray, List.set_cons_zero, List.set_cons_succ]
 refine wpAnyH_take (i := 19) (oi := ⟨_, _, _, _, _, _⟩) (v := ?_) rfl (by kernel_rfl) (by kernel_rfl) (by kernel_rfl) (fun _ _ _ h => h) (Or.inl ⟨by rfl, ?_⟩) (by assumption) ?_
 rotate_left
 ·intro w hSw
  try dsimp only at hSw
  go_simp
  try with_reducible rfl
 try simp only [Act.put, List.setIfInBounds_toArray, List.set_cons_zero, List.set_cons_succ]
 refine wpAnyH_ready (rs := [20]) (by kernel_rfl) (by simp) ?_
 refine AllReadyH.cons (o := ⟨_, _, _, _, _, _⟩) rfl (fun K hK => ?_) ?_
 rotate_left
 ·exact AllReadyH.nil
 refine wp_store_part _ _ _ rfl _ 2 rfl rfl (cs := #[.int .i64 v4]) rfl Kc6.out (by kernel_rfl) (by simp) (by simp [Value.oneCell']) (D := #[.int .i64 v2, .int .i64 v3, .int .i64 v4, .int .i64 0, .int .i64 0, .int .i64 0, .int .i64 0, .int .i64 0, .int .i64 0, .slice none 0 0, .bool false, .slice none 0 0, .bool false, .int .i64 0, .int .i64 0, .bool false, .int .i64 0, .int .i64 0, .slice none 0 0, .slice none 0 0, .slice none 0 0]) rfl ?_
 intro w7 h1 h2
 have Kc7 := Lib.hid h1; have hw7 := Nat.le_trans hw6 h2.size; have HK7 := Lib.hid (keeps_after HK6.out h2 (by omega)); have HE7 := Lib.hid (eyeS_store HE6.out h2 (by have := HLT.out.1; omega) (by have := HLT.out.2.1; omega) (fun hne => by have := HLT.out.2.2 (fun e => hne (nil_of9 HL6.out e)); omega)); have p7 := HE7.out.ptr; have HL7 := HL6; have Kr7 := Lib.hid (grown_other9 Kr6.out h2 (by omega) (by omega)); clear h1 h2
 refine hK.out _ _ (p7) (fun hHeld => ?_)
 clear hK K
 try simp only [Act.put, List.setIfInBounds_toArray, List.set_cons_zero, List.set_cons_succ]
 refine wpAnyH_done (by kernel_rfl) ?_ _
 go_upto_region 3 with fail
 refine wp_region_held_drew (S := fun Y => Y.cell? ⟨s, 0, none⟩ = some (.pointer (some ⟨b, 0, none⟩))) (by kernel_rfl) (p7) (fun hHeld => ?_)
 have HE8 : Hid (EyeS w7.drew s b g c4) := Lib.hid (HE7.out.before (S2.kDrew (S2.Keeps.refl _ _)))
 have HK8 : Hid (S2.Keeps (Both s b) w w7.drew) := Lib.hid (HK7.out.then (S2.kDrew (S2.Keeps.refl _ _)))
 have HL8 := HL7
 have hw8 : (w.heap.size + 2) ≤ w7.drew.heap.size := hw7
 have p8 := HE8.out.ptr
 have Kr8 : Hid (w7.drew.heap[w.heap.size]? = some (.cells #[.int .i64 0, .int .i64 0, .int .i64 0, .int .i64 0, .int .i64 0, .int .i64 0, .int .i64 0, .int .i64 0, .int .i64 0, .slice none 0 0, .bool false, .slice none 0 0, .bool false, .int .i64 0, .int .i64 0, .bool false, .int .i64 0, .int .i64 0, .slice none 0 0, .slice none 0 0, .slice none 0 0] 61 (0, 0))) := Kr7
 have Kc8 : Hid (w7.drew.heap[(w.heap.size + 1)]? = some (.cells #[.int .i64 v2, .int .i64 v3, .int .i64 v4, .int .i64 0, .int .i64 0, .int .i64 0, .int .i64 0, .int .i64 0, .int .i64 0, .slice none 0 0, .bool false, .slice none 0 0, .bool false, .int .i64 0, .int .i64 0, .bool false, .int .i64 0, .int .i64 0, .slice none 0 0, .slice none 0 0, .slice none 0 0] 61 (0, 0))) := Kc7
 generalize w7.drew = w8 at *
 refine wpAnyH_take (i := 0) (oi := ⟨_, _, _, _, _, _⟩) (v := ?_) rfl (by kernel_rfl) (by kernel_rfl) (by kernel_rfl) (fun _ _ _ h => h) (Or.inl ⟨by rfl, ?_⟩) (by assumption) ?_
 rotate_left
 ·intro w hSw
  try dsimp only at hSw
  go_simp
  try with_reducible rfl
 try simp only [Act.put, List.setIfInBounds_toArray, List.set_cons_zero, List.set_cons_succ]
 refine wpAnyH_take (i := 1) (oi := ⟨_, _, _, _, _, _⟩) (v := ?_) rfl (by kernel_rfl) (by kernel_rfl) (by kernel_rfl) (fun _ _ _ h => h) (Or.inl ⟨by rfl, ?_⟩) (by assumption) ?_
 rotate_left
 ·intro w hSw
  try dsimp only at hSw
  go_simp
  try with_reducible rfl
 try simp only [Act.put, List.setIfInBounds_toArray, List.set_cons_zero, List.set_cons_succ]
 refine wpAnyH_take (i := 2) (oi := ⟨_, _, _, _, _, _⟩) (v := ?_) rfl (by kernel_rfl) (by kernel_rfl) (by kernel_rfl) (fun _ _ _ h => h) (Or.inl ⟨by rfl, ?_⟩) (by assumption) ?_
 rotate_left
 ·intro w hSw
  try dsimp only at hSw
  go_simp
  try with_reducible rfl
 try simp only [Act.put, List.setIfInBounds_toArray, List.set_cons_zero, List.set_cons_succ]
 refine wpAnyH_take (i := 3) (oi := ⟨_, _, _, _, _, _⟩) (v := ?_) rfl (by kernel_rfl) (by kernel_rfl) (by kernel_rfl) (fun _ _ _ h => h) (Or.inl ⟨by rfl, ?_⟩) (by assumption) ?_
 rotate_left
 ·intro w hSw
  try dsimp only at hSw
  go_simp
  try with_reducible rfl
 try simp only [Act.put, List.setIfInBounds_toArray, List.set_cons_zero, List.set_cons_succ]
 refine wpAnyH_take (i := 5) (oi := ⟨_, _, _, _, _, _⟩) (v := ?_) rfl (by kernel_rfl) (by kernel_rfl) (by kernel_rfl) (fun _ _ _ h => h) (Or.inl ⟨by rfl, ?_⟩) (by assumption) ?_
 rotate_left
 ·intro w hSw
  try dsimp only at hSw
  go_simp
  try with_reducible rfl
 try simp only [Act.put, List.setIfInBounds_toArray, List.set_cons_zero, List.set_cons_succ]
 refine wpAnyH_take (i := 6) (oi := ⟨_, _, _, _, _, _⟩) (v := ?_) rfl (by kernel_rfl) (by kernel_rfl) (by kernel_rfl) (fun _ _ _ h => h) (Or.inl ⟨by rfl, ?_⟩) (by assumption) ?_
 rotate_left
 ·intro w hSw
  try dsimp only at hSw
  go_simp
  try with_reducible rfl
 try simp only [Act.put, List.setIfInBounds_toArray, List.set_cons_zero, List.set_cons_succ]
 refine wpAnyH_take (i := 7) (oi := ⟨_, _, _, _, _, _⟩) (v := ?_) rfl (by kernel_rfl) (by kernel_rfl) (by kernel_rfl) (fun _ _ _ h => h) (Or.inl ⟨by rfl, ?_⟩) (by assumption) ?_
 rotate_left
 ·intro w hSw
  try dsimp only at hSw
  go_simp
  try with_reducible rfl
 try simp only [Act.put, List.setIfInBounds_toArray, List.set_cons_zero, List.set_cons_succ]
 refine wpAnyH_take (i := 8) (oi := ⟨_, _, _, _, _, _⟩) (v := ?_) rfl (by kernel_rfl) (by kernel_rfl) (by kernel_rfl) (fun _ _ _ h => h) (Or.inl ⟨by rfl, ?_⟩) (by assumption) ?_
 rotate_left
 ·intro w hSw
  try dsimp only at hSw
  go_simp
  try with_reducible rfl
 try simp only [Act.put, List.setIfInBounds_toArray, List.set_cons_zero, List.set_cons_succ]
 refine wpAnyH_take (i := 10) (oi := ⟨_, _, _, _, _, _⟩) (v := ?_) rfl (by kernel_rfl) (by kernel_rfl) (by kernel_rfl) (fun _ _ _ h => h) (Or.inl ⟨by rfl, ?_⟩) (by assumption) ?_
 rotate_left
 ·intro w hSw
  try dsimp only at hSw
  go_simp
  try with_reducible rfl
 try simp only [Act.put, List.setIfInBounds_toArray, List.set_cons_zero, List.set_cons_succ]
 refine wpAnyH_take (i := 11) (oi := ⟨_, _, _, _, _, _⟩) (v := ?_) rfl (by kernel_rfl) (by kernel_rfl) (by kernel_rfl) (fun _ _ _ h => h) (Or.inl ⟨by rfl, ?_⟩) (by assumption) ?_
 rotate_left
 ·intro w hSw
  try dsimp only at hSw
  go_simp
  try with_reducible rfl
 try simp only [Act.put, List.setIfInBounds_toArray, List.set_cons_zero, List.set_cons_succ]
 refine wpAnyH_take (i := 12) (oi := ⟨_, _, _, _, _, _⟩) (v := ?_) rfl (by kernel_rfl) (by kernel_rfl) (by kernel_rfl) (fun _ _ _ h => h) (Or.inl ⟨by rfl, ?_⟩) (by assumption) ?_
 rotate_left
 ·intro w hSw
  try dsimp only at hSw
  go_simp
  try with_reducible rfl
 try simp only [Act.put, List.setIfInBounds_toArray, List.set_cons_zero, List.set_cons_succ]
 refine wpAnyH_take (i := 13) (oi := ⟨_, _, _, _, _, _⟩) (v := ?_) rfl (by kernel_rfl) (by kernel_rfl) (by kernel_rfl) (fun _ _ _ h => h) (Or.inl ⟨by rfl, ?_⟩) (by assumption) ?_
 rotate_left
 ·intro w hSw
  try dsimp only at hSw
  go_simp
  try with_reducible rfl
 try simp only [Act.put, List.setIfInBounds_toArray, List.set_cons_zero, List.set_cons_succ]
 refine wpAnyH_ready (rs := [4]) (by kernel_rfl) (by simp) ?_
 refine AllReadyH.cons (o := ⟨_, _, _, _, _, _⟩) rfl (fun K hK => ?_) ?_
 rotate_left
 ·exact AllReadyH.nil
 go_simp
 ((with_reducible refine atC w8 ?_); go_at_call 123; go_must (refine (sstamp_any HE8.out).mono ?_; intro e w9 h; unfold SeeS stV at h; obtain ⟨rfl, he1, hk1⟩ := h; have hk2 := (both_of (s := s) hk1); obtain ⟨c9, hc9⟩ : ∃ x, x = cS.fin c4 := ⟨_, rfl⟩; obtain ⟨v9, hv9⟩ : ∃ x, x = cS.val c4 := ⟨_, rfl⟩; rw [← hc9] at he1; rw [← hv9] at ⊢; have HE9 := Lib.hid he1; have p9 := he1.ptr; have HL9 : Hid (c9.1.length ≤ c.1.length) := Lib.hid (by rw [hc9]; exact Nat.le_trans (cS_ok.len c4) HL8.out); have HK9 := Lib.hid (HK8.out.then hk2); have hw9 := Nat.le_trans hw8 hk2.size; have Kr9 := Lib.hid ((hk2.block w.heap.size (by omega) (by have := HLT.out.1; have := HLT.out.2.1; rintro (e | e) <;> omega)).trans Kr8.out); have Kc9 := Lib.hid ((hk2.block (w.heap.size + 1) (by omega) (by have := HLT.out.1; have := HLT.out.2.1; rintro (e | e) <;> omega)).trans Kc8.out); have HC9 := Lib.hid hc9; have HV9 := Lib.hid hv9; clear hk1 hk2 he1 hc9 hv9))
 refine hK.out _ _ (p9) (fun hHeld => ?_)
 clear hK K
 try simp only [Act.put, List.setIfInBounds_toArray, List.set_cons_zero, List.set_cons_succ]
 refine wpAnyH_take (i := 15) (oi := ⟨_, _, _, _, _, _⟩) (v := ?_) rfl (by kernel_rfl) (by kernel_rfl) (by kernel_rfl) (fun _ _ _ h => h) (Or.inl ⟨by rfl, ?_⟩) (by assumption) ?_
 rotate_left
 ·intro w hSw
  try dsimp only at hSw
  go_simp
  try with_reducible rfl
 try simp only [Act.put, List.setIfInBounds_toArray, List.set_cons_zero, List.set_cons_succ]
 refine wpAnyH_ready (rs := [9]) (by kernel_rfl) (by simp) ?_
 refine AllReadyH.cons (o := ⟨_, _, _, _, _, _⟩) rfl (fun K hK => ?_) ?_
 rotate_left
 ·exact AllReadyH.nil
 go_simp
 ((with_reducible refine atC w9 ?_); go_at_call 123; go_must (refine (sstamp_any HE9.out).mono ?_; intro e w10 h; unfold SeeS stV at h; obtain ⟨rfl, he1, hk1⟩ := h; have hk2 := (both_of (s := s) hk1); obtain ⟨c10, hc10⟩ : ∃ x, x = cS.fin c9 := ⟨_, rfl⟩; obtain ⟨v10, hv10⟩ : ∃ x, x = cS.val c9 := ⟨_, rfl⟩; rw [← hc10] at he1; rw [← hv10] at ⊢; have HE10 := Lib.hid he1; have p10 := he1.ptr; have HL10 : Hid (c10.1.length ≤ c.1.length) := Lib.hid (by rw [hc10]; exact Nat.le_trans (cS_ok.len c9) HL9.out); have HK10 := Lib.hid (HK9.out.then hk2); have hw10 := Nat.le_trans hw9 hk2.size; have Kr10 := Lib.hid ((hk2.block w.heap.size (by omega) (by have := HLT.out.1; have := HLT.out.2.1; rintro (e | e) <;> omega)).trans Kr9.out); have Kc10 := Lib.hid ((hk2.block (w.heap.size + 1) (by omega) (by have := HLT.out.1; have := HLT.out.2.1; rintro (e | e) <;> omega)).trans Kc9.out); have HC10 := Lib.hid hc10; have HV10 := Lib.hid hv10; clear hk1 hk2 he1 hc10 hv10))
 refine hK.out _ _ (p10) (fun hHeld => ?_)
 clear hK K
 try simp only [Act.put, List.setIfInBounds_toArray, List.set_cons_zero, List.set_cons_succ]
 refine wpAnyH_ready (rs := [14]) (by kernel_rfl) (by simp) ?_
 refine AllReadyH.cons (o := ⟨_, _, _, _, _, _⟩) rfl (fun K hK => ?_) ?_
 rotate_left
 ·exact AllReadyH.nil
 go_simp
 ((with_reducible refine atC w10 ?_); go_at_call 123; go_must (refine (sstamp_any HE10.out).mono ?_; intro e w11 h; unfold SeeS stV at h; obtain ⟨rfl, he1, hk1⟩ := h; have hk2 := (both_of (s := s) hk1); obtain ⟨c11, hc11⟩ : ∃ x, x = cS.fin c10 := ⟨_, rfl⟩; obtain ⟨v11, hv11⟩ : ∃ x, x = cS.val c10 := ⟨_, rfl⟩; rw [← hc11] at he1; rw [← hv11] at ⊢; have HE11 := Lib.hid he1; have p11 := he1.ptr; have HL11 : Hid (c11.1.length ≤ c.1.length) := Lib.hid (by rw [hc11]; exact Nat.le_trans (cS_ok.len c10) HL10.out); have HK11 := Lib.hid (HK10.out.then hk2); have hw11 := Nat.le_trans hw10 hk2.size; have Kr11 := Lib.hid ((hk2.block w.heap.size (by omega) (by have := HLT.out.1; have := HLT.out.2.1; rintro (e | e) <;> omega)).trans Kr10.out); have Kc11 := Lib.hid ((hk2.block (w.heap.size + 1) (by omega) (by have := HLT.out.1; have := HLT.out.2.1; rintro (e | e) <;> omega)).trans Kc10.out); have HC11 := Lib.hid hc11; have HV11 := Lib.hid hv11; clear hk1 hk2 he1 hc11 hv11))
 refine hK.out _ _ (p11) (fun hHeld => ?_)
 clear hK K
 try simp only [Act.put, List.setIfInBounds_toArray, List.set_cons_zero, List.set_cons_succ]
 refine wpAnyH_ready (rs := [16]) (by kernel_rfl) (by simp) ?_
 refine AllReadyH.cons (o := ⟨_, _, _, _, _, _⟩) rfl (fun K hK => ?_) ?_
 rotate_left
 ·exact AllReadyH.nil
 refine wp_store_part _ _ _ rfl _ 3 rfl rfl (cs := #[.int .i64 v9.1, .int .i64 v9.2]) rfl Kc11.out (by kernel_rfl) (by simp) (by simp [Value.oneCell']) (D := #[.int .i64 v2, .int .i64 v3, .int .i64 v4, .int .i64 v9.1, .int .i64 v9.2, .int .i64 0, .int .i64 0, .int .i64 0, .int .i64 0, .slice none 0 0, .bool false, .slice none 0 0, .bool false, .int .i64 0, .int .i64 0, .bool false, .int .i64 0, .int .i64 0, .slice none 0 0, .slice none 0 0, .slice none 0 0]) rfl ?_
 intro w12 h1 h2
 have Kc12 := Lib.hid h1; have hw12 := Nat.le_trans hw11 h2.size; have HK12 := Lib.hid (keeps_after HK11.out h2 (by omega)); have HE12 := Lib.hid (eyeS_store HE11.out h2 (by have := HLT.out.1; omega) (by have := HLT.out.2.1; omega) (fun hne => by have := HLT.out.2.2 (fun e => hne (nil_of9 HL11.out e)); omega)); have p12 := HE12.out.ptr; have HL12 := HL11; have Kr12 := Lib.hid (grown_other9 Kr11.out h2 (by omega) (by omega)); clear h1 h2
 refine hK.out _ _ (p12) (fun hHeld => ?_)
 clear hK K
 try simp only [Act.put, List.setIfInBounds_toArray, List.set_cons_zero, List.set_cons_succ]
 refine wpAnyH_take (i := 17) (oi := ⟨_, _, _, _, _, _⟩) (v := ?_) rfl (by kernel_rfl) (by kernel_rfl) (by kernel_rfl) (fun _ _ _ h => h) (Or.inl ⟨by rfl, ?_⟩) (by assumption) ?_
 rotate_left
 ·intro w hSw
  try dsimp only at hSw
  go_simp
  try with_reducible rfl
 try simp only [Act.put, List.setIfInBounds_toArray, List.set_cons_zero, List.set_cons_succ]
 refine wpAnyH_ready (rs := [18]) (by kernel_rfl) (by simp) ?_
 refine AllReadyH.cons (o := ⟨_, _, _, _, _, _⟩) rfl (fun K hK => ?_) ?_
 rotate_left
 ·exact AllReadyH.nil
 refine wp_store_part _ _ _ rfl _ 5 rfl rfl (cs := #[.int .i64 v10.1, .int .i64 v10.2]) rfl Kc12.out (by kernel_rfl) (by simp) (by simp [Value.oneCell']) (D := #[.int .i64 v2, .int .i64 v3, .int .i64 v4, .int .i64 v9.1, .int .i64 v9.2, .int .i64 v10.1, .int .i64 v10.2, .int .i64 0, .int .i64 0, .slice none 0 0, .bool false, .slice none 0 0, .bool false, .int .i64 0, .int .i64 0, .bool false, .int .i64 0, .int .i64 0, .slice none 0 0, .slice none 0 0, .slice none 0 0]) rfl ?_
 intro w13 h1 h2
 have Kc13 := Lib.hid h1; have hw13 := Nat.le_trans hw12 h2.size; have HK13 := Lib.hid (keeps_after HK12.out h2 (by omega)); have HE13 := Lib.hid (eyeS_store HE12.out h2 (by have := HLT.out.1; omega) (by have := HLT.out.2.1; omega) (fun hne => by have := HLT.out.2.2 (fun e => hne (nil_of9 HL12.out e)); omega)); have p13 := HE13.out.ptr; have HL13 := HL12; have Kr13 := Lib.hid (grown_other9 Kr12.out h2 (by omega) (by omega)); clear h1 h2
 refine hK.out _ _ (p13) (fun hHeld => ?_)
 clear hK K
 try simp only [Act.put, List.setIfInBounds_toArray, List.set_cons_zero, List.set_cons_succ]
 refine wpAnyH_take (i := 19) (oi := ⟨_, _, _, _, _, _⟩) (v := ?_) rfl (by kernel_rfl) (by kernel_rfl) (by kernel_rfl) (fun _ _ _ h => h) (Or.inl ⟨by rfl, ?_⟩) (by assumption) ?_
 rotate_left
 ·intro w hSw
  try dsimp only at hSw
  go_simp
  try with_reducible rfl
 try simp only [Act.put, List.setIfInBounds_toArray, List.set_cons_zero, List.set_cons_succ]
 refine wpAnyH_ready (rs := [20]) (by kernel_rfl) (by simp) ?_
 refine AllReadyH.cons (o := ⟨_, _, _, _, _, _⟩) rfl (fun K hK => ?_) ?_
 rotate_left
 ·exact AllReadyH.nil
 refine wp_store_part _ _ _ rfl _ 7 rfl rfl (cs := #[.int .i64 v11.1, .int .i64 v11.2]) rfl Kc13.out (by kernel_rfl) (by simp) (by simp [Value.oneCell']) (D := #[.int .i64 v2, .int .i64 v3, .int .i64 v4, .int .i64 v9.1, .int .i64 v9.2, .int .i64 v10.1, .int .i64 v10.2, .int .i64 v11.1, .int .i64 v11.2, .slice none 0 0, .bool false, .slice none 0 0, .bool false, .int .i64 0, .int .i64 0, .bool false, .int .i64 0, .int .i64 0, .slice none 0 0, .slice none 0 0, .slice none 0 0]) rfl ?_
 intro w14 h1 h2
 have Kc14 := Lib.hid h1; have hw14 := Nat.le_trans hw13 h2.size; have HK14 := Lib.hid (keeps_after HK13.out h2 (by omega)); have HE14 := Lib.hid (eyeS_store HE13.out h2 (by have := HLT.out.1; omega) (by have := HLT.out.2.1; omega) (fun hne => by have := HLT.out.2.2 (fun e => hne (nil_of9 HL13.out e)); omega)); have p14 := HE14.out.ptr; have HL14 := HL13; have Kr14 := Lib.hid (grown_other9 Kr13.out h2 (by omega) (by omega)); clear h1 h2
 refine hK.out _ _ (p14) (fun hHeld => ?_)
 clear hK K
 try simp only [Act.put, List.setIfInBounds_toArray, List.set_cons_zero, List.set_cons_succ]
 refine wpAnyH_done (by kernel_rfl) ?_ _
 go_wp2_with (first | go_skip | ((with_reducible refine atW w30 ?_); refine storeM _ _ rfl rfl _ rfl rfl Kr30.out rfl rfl (by simp [Value.oneCell']) ?_; intro w31 h1 h2; have Kr31 := Lib.hid h1; have hw31 := Nat.le_trans hw30 h2.size; have HK31 := Lib.hid (keeps_after HK30.out h2 (by omega)); have HE31 := Lib.hid (eyeS_store HE30.out h2 (by have := HLT.out.1; omega) (by have := HLT.out.2.1; omega) (fun hne => by have := HLT.out.2.2 (fun e => hne (nil_of9 HL30.out e)); omega)); have p31 := HE31.out.ptr; have HL31 := HL30; have Kc31 := Lib.hid (grown_other9 Kc30.out h2 (by omega) (by omega)); have OO_31 := Lib.hid (ownG_kp OO_30.out (grown_lt h2 (by omega))); have OS_31 := Lib.hid (OS_30.out.kp (grown_lt h2 (by omega))); have OD_31 := Lib.hid (OD_30.out.kp (grown_lt h2 (by omega))); have OW_31 := Lib.hid (ownG_kp OW_30.out (grown_lt h2 (by omega))); have OP_31 := Lib.hid (ownG_kp OP_30.out (grown_lt h2 (by omega))); clear h1 h2) | ((with_reducible refine atW w30 ?_); refine loadM _ rfl rfl _ rfl Kc30.out rfl ?_) | ((with_reducible refine atW w29 ?_); refine wpList_store_part _ _ _ rfl rfl _ 20 rfl rfl (cs := #[.slice a29 v29.length cp29]) rfl Kc29.out (by kernel_rfl) (by simp) (by simp [Value.oneCell']) (D := #[.int .i64 v2, .int .i64 v3, .int .i64 v4, .int .i64 v9.1, .int .i64 v9.2, .int .i64 v10.1, .int .i64 v10.2, .int .i64 v11.1, .int .i64 v11.2, .slice a15 v15.length cp15, .bool v17, .slice a19 fn19 cp19, .bool v21, .int .i64 v23.1, .int .i64 v23.2, .bool v25.1, .int .i64 v25.2.1.1, .int .i64 v25.2.1.2, .slice a25 fn25 cp25, .slice a27 v27.length cp27, .slice a29 v29.length cp29]) rfl ?_; intro w30 h1 h2; have Kc30 := Lib.hid h1; have hw30 := Nat.le_trans hw29 h2.size; have HK30 := Lib.hid (keeps_after HK29.out h2 (by omega)); have HE30 := Lib.hid (eyeS_store HE29.out h2 (by have := HLT.out.1; omega) (by have := HLT.out.2.1; omega) (fun hne => by have := HLT.out.2.2 (fun e => hne (nil_of9 HL29.out e)); omega)); have p30 := HE30.out.ptr; have HL30 := HL29; have Kr30 := Lib.hid (grown_other9 Kr29.out h2 (by omega) (by omega)); have OO_30 := Lib.hid (ownG_kp OO_29.out (grown_lt h2 (by omega))); have OS_30 := Lib.hid (OS_29.out.kp (grown_lt h2 (by omega))); have OD_30 := Lib.hid (OD_29.out.kp (grown_lt h2 (by omega))); have OW_30 := Lib.hid (ownG_kp OW_29.out (grown_lt h2 (by omega))); have OP_30 := Lib.hid (ownG_kp OP_29.out (grown_lt h2 (by omega))); clear h1 h2) | ((with_reducible refine atC w28 ?_); go_at_call 129; go_must (refine (sPs_any HE28.out (by have := HL28.out; have := HLN.out; omega)).mono ?_; intro e w29 h; unfold SeeL at h; obtain ⟨x29, rfl, ho1, he1, hk1⟩ := h; have hk2 := hk1; obtain ⟨c29, hc29⟩ : ∃ x, x = cP.list.fin c27 := ⟨_, rfl⟩; obtain ⟨v29, hv29⟩ : ∃ x, x = cP.list.val c27 := ⟨_, rfl⟩; rw [← hc29] at he1; rw [← hv29] at ho1; have HE29 := Lib.hid he1; have p29 := he1.ptr; have HL29 : Hid (c29.1.length ≤ c.1.length) := Lib.hid (by rw [hc29]; exact Nat.le_trans (cPl_ok.len c27) HL28.out); have HK29 := Lib.hid (HK28.out.then hk2); have hw29 := Nat.le_trans hw28 hk2.size; have Kr29 := Lib.hid ((hk2.block w.heap.size (by omega) (by have := HLT.out.1; have := HLT.out.2.1; rintro (e | e) <;> omega)).trans Kr28.out); have Kc29 := Lib.hid ((hk2.block (w.heap.size + 1) (by omega) (by have := HLT.out.1; have := HLT.out.2.1; rintro (e | e) <;> omega)).trans Kc28.out); have OO_29 := Lib.hid (ownG_kp OO_28.out (both_lt hk2 (by have := HLT.out.1; omega) (by have := HLT.out.2.1; omega))); have OS_29 := Lib.hid (OS_28.out.kp (both_lt hk2 (by have := HLT.out.1; omega) (by have := HLT.out.2.1; omega))); have OD_29 := Lib.hid (OD_28.out.kp (both_lt hk2 (by have := HLT.out.1; omega) (by have := HLT.out.2.1; omega))); have OW_29 := Lib.hid (ownG_kp OW_28.out (both_lt hk2 (by have := HLT.out.1; omega) (by have := HLT.out.2.1; omega))); have OP_29 := Lib.hid (ho1.mono hw28); obtain ⟨a29, cp29, rfl⟩ := ho1.form; have HC29 := Lib.hid hc29; have HV29 := Lib.hid hv29; clear hk1 hk2 he1 hc29 hv29 ho1)) | ((with_reducible refine atW w27 ?_); refine wpList_store_part _ _ _ rfl rfl _ 19 rfl rfl (cs := #[.slice a27 v27.length cp27]) rfl Kc27.out (by kernel_rfl) (by simp) (by simp [Value.oneCell']) (D := #[.int .i64 v2, .int .i64 v3, .int .i64 v4, .int .i64 v9.1, .int .i64 v9.2, .int .i64 v10.1, .int .i64 v10.2, .int .i64 v11.1, .int .i64 v11.2, .slice a15 v15.length cp15, .bool v17, .slice a19 fn19 cp19, .bool v21, .int .i64 v23.1, .int .i64 v23.2, .bool v25.1, .int .i64 v25.2.1.1, .int .i64 v25.2.1.2, .slice a25 fn25 cp25, .slice a27 v27.length cp27, .slice none 0 0]) rfl ?_; intro w28 h1 h2; have Kc28 := Lib.hid h1; have hw28 := Nat.le_trans hw27 h2.size; have HK28 := Lib.hid (keeps_after HK27.out h2 (by omega)); have HE28 := Lib.hid (eyeS_store HE27.out h2 (by have := HLT.out.1; omega) (by have := HLT.out.2.1; omega) (fun hne => by have := HLT.out.2.2 (fun e => hne (nil_of9 HL27.out e)); omega)); have p28 := HE28.out.ptr; have HL28 := HL27; have Kr28 := Lib.hid (grown_other9 Kr27.out h2 (by omega) (by omega)); have OO_28 := Lib.hid (ownG_kp OO_27.out (grown_lt h2 (by omega))); have OS_28 := Lib.hid (OS_27.out.kp (grown_lt h2 (by omega))); have OD_28 := Lib.hid (OD_27.out.kp (grown_lt h2 (by omega))); have OW_28 := Lib.hid (ownG_kp OW_27.out (grown_lt h2 (by omega))); clear h1 h2) | ((with_reducible refine atC w26 ?_); go_at_call 128; go_must (refine (sWs_any HE26.out (by have := HL26.out; have := HLN.out; omega)).mono ?_; intro e w27 h; unfold SeeL at h; obtain ⟨x27, rfl, ho1, he1, hk1⟩ := h; have hk2 := hk1; obtain ⟨c27, hc27⟩ : ∃ x, x = cW.list.fin c25 := ⟨_, rfl⟩; obtain ⟨v27, hv27⟩ : ∃ x, x = cW.list.val c25 := ⟨_, rfl⟩; rw [← hc27] at he1; rw [← hv27] at ho1; have HE27 := Lib.hid he1; have p27 := he1.ptr; have HL27 : Hid (c27.1.length ≤ c.1.length) := Lib.hid (by rw [hc27]; exact Nat.le_trans (cWl_ok.len c25) HL26.out); have HK27 := Lib.hid (HK26.out.then hk2); have hw27 := Nat.le_trans hw26 hk2.size; have Kr27 := Lib.hid ((hk2.block w.heap.size (by omega) (by have := HLT.out.1; have := HLT.out.2.1; rintro (e | e) <;> omega)).trans Kr26.out); have Kc27 := Lib.hid ((hk2.block (w.heap.size + 1) (by omega) (by have := HLT.out.1; have := HLT.out.2.1; rintro (e | e) <;> omega)).trans Kc26.out); have OO_27 := Lib.hid (ownG_kp OO_26.out (both_lt hk2 (by have := HLT.out.1; omega) (by have := HLT.out.2.1; omega))); have OS_27 := Lib.hid (OS_26.out.kp (both_lt hk2 (by have := HLT.out.1; omega) (by have := HLT.out.2.1; omega))); have OD_27 := Lib.hid (OD_26.out.kp (both_lt hk2 (by have := HLT.out.1; omega) (by have := HLT.out.2.1; omega))); have OW_27 := Lib.hid (ho1.mono hw26); obtain ⟨a27, cp27, rfl⟩ := ho1.form; have HC27 := Lib.hid hc27; have HV27 := Lib.hid hv27; clear hk1 hk2 he1 hc27 hv27 ho1)) | ((with_reducible refine atW w25 ?_); refine wpList_store_part _ _ _ rfl rfl _ 15 rfl rfl (cs := #[.bool v25.1, .int .i64 v25.2.1.1, .int .i64 v25.2.1.2, .slice a25 fn25 cp25]) rfl Kc25.out (by kernel_rfl) (by simp) (by simp [Value.oneCell']) (D := #[.int .i64 v2, .int .i64 v3, .int .i64 v4, .int .i64 v9.1, .int .i64 v9.2, .int .i64 v10.1, .int .i64 v10.2, .int .i64 v11.1, .int .i64 v11.2, .slice a15 v15.length cp15, .bool v17, .slice a19 fn19 cp19, .bool v21, .int .i64 v23.1, .int .i64 v23.2, .bool v25.1, .int .i64 v25.2.1.1, .int .i64 v25.2.1.2, .slice a25 fn25 cp25, .slice none 0 0, .slice none 0 0]) rfl ?_; intro w26 h1 h2; have Kc26 := Lib.hid h1; have hw26 := Nat.le_trans hw25 h2.size; have HK26 := Lib.hid (keeps_after HK25.out h2 (by omega)); have HE26 := Lib.hid (eyeS_store HE25.out h2 (by have := HLT.out.1; omega) (by have := HLT.out.2.1; omega) (fun hne => by have := HLT.out.2.2 (fun e => hne (nil_of9 HL25.out e)); omega)); have p26 := HE26.out.ptr; have HL26 := HL25; have Kr26 := Lib.hid (grown_other9 Kr25.out h2 (by omega) (by omega)); have OO_26 := Lib.hid (ownG_kp OO_25.out (grown_lt h2 (by omega))); have OS_26 := Lib.hid (OS_25.out.kp (grown_lt h2 (by omega))); have OD_26 := Lib.hid (OD_25.out.kp (grown_lt h2 (by omega))); clear h1 h2) | ((with_reducible refine atC w24 ?_); go_at_call 127; go_must (refine (sV_any HE24.out (by have := HL24.out; have := HLN.out; omega)).mono ?_; intro e w25 h; unfold SeeV vlV at h; obtain ⟨x25, rfl, ho1, he1, hk1⟩ := h; have hk2 := hk1; obtain ⟨c25, hc25⟩ : ∃ x, x = cV.fin c23 := ⟨_, rfl⟩; obtain ⟨v25, hv25⟩ : ∃ x, x = cV.val c23 := ⟨_, rfl⟩; rw [← hc25] at he1; rw [← hv25] at ho1 ⊢; have HE25 := Lib.hid he1; have p25 := he1.ptr; have HL25 : Hid (c25.1.length ≤ c.1.length) := Lib.hid (by rw [hc25]; exact Nat.le_trans (cV_ok.len c23) HL24.out); have HK25 := Lib.hid (HK24.out.then hk2); have hw25 := Nat.le_trans hw24 hk2.size; have Kr25 := Lib.hid ((hk2.block w.heap.size (by omega) (by have := HLT.out.1; have := HLT.out.2.1; rintro (e | e) <;> omega)).trans Kr24.out); have Kc25 := Lib.hid ((hk2.block (w.heap.size + 1) (by omega) (by have := HLT.out.1; have := HLT.out.2.1; rintro (e | e) <;> omega)).trans Kc24.out); have OO_25 := Lib.hid (ownG_kp OO_24.out (both_lt hk2 (by have := HLT.out.1; omega) (by have := HLT.out.2.1; omega))); have OS_25 := Lib.hid (OS_24.out.kp (both_lt hk2 (by have := HLT.out.1; omega) (by have := HLT.out.2.1; omega))); have OD_25 := Lib.hid (ho1.mono hw24); obtain ⟨a25, fn25, cp25, rfl⟩ := ho1.form; have HC25 := Lib.hid hc25; have HV25 := Lib.hid hv25; clear hk1 hk2 he1 hc25 hv25 ho1)) | ((with_reducible refine atW w23 ?_); refine wpList_store_part _ _ _ rfl rfl _ 13 rfl rfl (cs := #[.int .i64 v23.1, .int .i64 v23.2]) rfl Kc23.out (by kernel_rfl) (by simp) (by simp [Value.oneCell']) (D := #[.int .i64 v2, .int .i64 v3, .int .i64 v4, .int .i64 v9.1, .int .i64 v9.2, .int .i64 v10.1, .int .i64 v10.2, .int .i64 v11.1, .int .i64 v11.2, .slice a15 v15.length cp15, .bool v17, .slice a19 fn19 cp19, .bool v21, .int .i64 v23.1, .int .i64 v23.2, .bool false, .int .i64 0, .int .i64 0, .slice none 0 0, .slice none 0 0, .slice none 0 0]) rfl ?_; intro w24 h1 h2; have Kc24 := Lib.hid h1; have hw24 := Nat.le_trans hw23 h2.size; have HK24 := Lib.hid (keeps_after HK23.out h2 (by omega)); have HE24 := Lib.hid (eyeS_store HE23.out h2 (by have := HLT.out.1; omega) (by have := HLT.out.2.1; omega) (fun hne => by have := HLT.out.2.2 (fun e => hne (nil_of9 HL23.out e)); omega)); have p24 := HE24.out.ptr; have HL24 := HL23; have Kr24 := Lib.hid (grown_other9 Kr23.out h2 (by omega) (by omega)); have OO_24 := Lib.hid (ownG_kp OO_23.out (grown_lt h2 (by omega))); have OS_24 := Lib.hid (OS_23.out.kp (grown_lt h2 (by omega))); clear h1 h2) | ((with_reducible refine atC w22 ?_); go_at_call 123; go_must (refine (sstamp_any HE22.out).mono ?_; intro e w23 h; unfold SeeS stV at h; obtain ⟨rfl, he1, hk1⟩ := h; have hk2 := (both_of (s := s) hk1); obtain ⟨c23, hc23⟩ : ∃ x, x = cS.fin c21 := ⟨_, rfl⟩; obtain ⟨v23, hv23⟩ : ∃ x, x = cS.val c21 := ⟨_, rfl⟩; rw [← hc23] at he1; rw [← hv23] at ⊢; have HE23 := Lib.hid he1; have p23 := he1.ptr; have HL23 : Hid (c23.1.length ≤ c.1.length) := Lib.hid (by rw [hc23]; exact Nat.le_trans (cS_ok.len c21) HL22.out); have HK23 := Lib.hid (HK22.out.then hk2); have hw23 := Nat.le_trans hw22 hk2.size; have Kr23 := Lib.hid ((hk2.block w.heap.size (by omega) (by have := HLT.out.1; have := HLT.out.2.1; rintro (e | e) <;> omega)).trans Kr22.out); have Kc23 := Lib.hid ((hk2.block (w.heap.size + 1) (by omega) (by have := HLT.out.1; have := HLT.out.2.1; rintro (e | e) <;> omega)).trans Kc22.out); have OO_23 := Lib.hid (ownG_kp OO_22.out (both_lt hk2 (by have := HLT.out.1; omega) (by have := HLT.out.2.1; omega))); have OS_23 := Lib.hid (OS_22.out.kp (both_lt hk2 (by have := HLT.out.1; omega) (by have := HLT.out.2.1; omega))); have HC23 := Lib.hid hc23; have HV23 := Lib.hid hv23; clear hk1 hk2 he1 hc23 hv23)) | ((with_reducible refine atW w21 ?_); refine wpList_store_part _ _ _ rfl rfl _ 12 rfl rfl (cs := #[.bool v21]) rfl Kc21.out (by kernel_rfl) (by simp) (by simp [Value.oneCell']) (D := #[.int .i64 v2, .int .i64 v3, .int .i64 v4, .int .i64 v9.1, .int .i64 v9.2, .int .i64 v10.1, .int .i64 v10.2, .int .i64 v11.1, .int .i64 v11.2, .slice a15 v15.length cp15, .bool v17, .slice a19 fn19 cp19, .bool v21, .int .i64 0, .int .i64 0, .bool false, .int .i64 0, .int .i64 0, .slice none 0 0, .slice none 0 0, .slice none 0 0]) rfl ?_; intro w22 h1 h2; have Kc22 := Lib.hid h1; have hw22 := Nat.le_trans hw21 h2.size; have HK22 := Lib.hid (keeps_after HK21.out h2 (by omega)); have HE22 := Lib.hid (eyeS_store HE21.out h2 (by have := HLT.out.1; omega) (by have := HLT.out.2.1; omega) (fun hne => by have := HLT.out.2.2 (fun e => hne (nil_of9 HL21.out e)); omega)); have p22 := HE22.out.ptr; have HL22 := HL21; have Kr22 := Lib.hid (grown_other9 Kr21.out h2 (by omega) (by omega)); have OO_22 := Lib.hid (ownG_kp OO_21.out (grown_lt h2 (by omega))); have OS_22 := Lib.hid (OS_21.out.kp (grown_lt h2 (by omega))); clear h1 h2) | ((with_reducible refine atC w20 ?_); go_at_call 125; go_must (refine (sbool_any HE20.out).mono ?_; intro e w21 h; unfold SeeS at h; obtain ⟨rfl, he1, hk1⟩ := h; have hk2 := (both_of (s := s) hk1); obtain ⟨c21, hc21⟩ : ∃ x, x = cB.fin c19 := ⟨_, rfl⟩; obtain ⟨v21, hv21⟩ : ∃ x, x = cB.val c19 := ⟨_, rfl⟩; rw [← hc21] at he1; rw [← hv21] at ⊢; have HE21 := Lib.hid he1; have p21 := he1.ptr; have HL21 : Hid (c21.1.length ≤ c.1.length) := Lib.hid (by rw [hc21]; exact Nat.le_trans (cB_ok.len c19) HL20.out); have HK21 := Lib.hid (HK20.out.then hk2); have hw21 := Nat.le_trans hw20 hk2.size; have Kr21 := Lib.hid ((hk2.block w.heap.size (by omega) (by have := HLT.out.1; have := HLT.out.2.1; rintro (e | e) <;> omega)).trans Kr20.out); have Kc21 := Lib.hid ((hk2.block (w.heap.size + 1) (by omega) (by have := HLT.out.1; have := HLT.out.2.1; rintro (e | e) <;> omega)).trans Kc20.out); have OO_21 := Lib.hid (ownG_kp OO_20.out (both_lt hk2 (by have := HLT.out.1; omega) (by have := HLT.out.2.1; omega))); have OS_21 := Lib.hid (OS_20.out.kp (both_lt hk2 (by have := HLT.out.1; omega) (by have := HLT.out.2.1; omega))); have HC21 := Lib.hid hc21; have HV21 := Lib.hid hv21; clear hk1 hk2 he1 hc21 hv21)) | ((with_reducible refine atW w19 ?_); refine wpList_store_part _ _ _ rfl rfl _ 11 rfl rfl (cs := #[.slice a19 fn19 cp19]) rfl Kc19.out (by kernel_rfl) (by simp) (by simp [Value.oneCell']) (D := #[.int .i64 v2, .int .i64 v3, .int .i64 v4, .int .i64 v9.1, .int .i64 v9.2, .int .i64 v10.1, .int .i64 v10.2, .int .i64 v11.1, .int .i64 v11.2, .slice a15 v15.length cp15, .bool v17, .slice a19 fn19 cp19, .bool false, .int .i64 0, .int .i64 0, .bool false, .int .i64 0, .int .i64 0, .slice none 0 0, .slice none 0 0, .slice none 0 0]) rfl ?_; intro w20 h1 h2; have Kc20 := Lib.hid h1; have hw20 := Nat.le_trans hw19 h2.size; have HK20 := Lib.hid (keeps_after HK19.out h2 (by omega)); have HE20 := Lib.hid (eyeS_store HE19.out h2 (by have := HLT.out.1; omega) (by have := HLT.out.2.1; omega) (fun hne => by have := HLT.out.2.2 (fun e => hne (nil_of9 HL19.out e)); omega)); have p20 := HE20.out.ptr; have HL20 := HL19; have Kr20 := Lib.hid (grown_other9 Kr19.out h2 (by omega) (by omega)); have OO_20 := Lib.hid (ownG_kp OO_19.out (grown_lt h2 (by omega))); have OS_20 := Lib.hid (OS_19.out.kp (grown_lt h2 (by omega))); clear h1 h2) | ((with_reducible refine atC w18 ?_); go_at_call 126; go_must (refine (SD.sdepsO_any HE18.out (by have := HL18.out; have := HLN.out; omega)).mono ?_; intro e w19 h; unfold SD.SeeLDO at h; obtain ⟨x19, F19, rfl, ht1, ho1, hg1, hb1, he1, hk1⟩ := h; have hk2 := hk1; obtain ⟨c19, hc19⟩ : ∃ x, x = SD.cD.list.fin c17 := ⟨_, rfl⟩; obtain ⟨v19, hv19⟩ : ∃ x, x = SD.cD.list.val c17 := ⟨_, rfl⟩; rw [← hc19] at he1; rw [← hv19] at ht1; have HE19 := Lib.hid he1; have p19 := he1.ptr; have HL19 : Hid (c19.1.length ≤ c.1.length) := Lib.hid (by rw [hc19]; exact Nat.le_trans (cDl_ok.len c17) HL18.out); have HK19 := Lib.hid (HK18.out.then hk2); have hw19 := Nat.le_trans hw18 hk2.size; have Kr19 := Lib.hid ((hk2.block w.heap.size (by omega) (by have := HLT.out.1; have := HLT.out.2.1; rintro (e | e) <;> omega)).trans Kr18.out); have Kc19 := Lib.hid ((hk2.block (w.heap.size + 1) (by omega) (by have := HLT.out.1; have := HLT.out.2.1; rintro (e | e) <;> omega)).trans Kc18.out); have OO_19 := Lib.hid (ownG_kp OO_18.out (both_lt hk2 (by have := HLT.out.1; omega) (by have := HLT.out.2.1; omega))); have OS_19 := Lib.hid ((dlO_of ht1 ho1 hg1 hb1).mono hw18); obtain ⟨a19, cp19, rfl⟩ : ∃ a c, x19 = .slice a F19.length c := (by obtain ⟨a, c, e, _⟩ := ho1.row; exact ⟨a, c, e⟩); generalize F19.length = fn19 at *; have HC19 := Lib.hid hc19; have HV19 := Lib.hid hv19; clear hk1 hk2 he1 hc19 hv19 ht1 ho1 hg1 hb1)) | ((with_reducible refine atW w17 ?_); refine wpList_store_part _ _ _ rfl rfl _ 10 rfl rfl (cs := #[.bool v17]) rfl Kc17.out (by kernel_rfl) (by simp) (by simp [Value.oneCell']) (D := #[.int .i64 v2, .int .i64 v3, .int .i64 v4, .int .i64 v9.1, .int .i64 v9.2, .int .i64 v10.1, .int .i64 v10.2, .int .i64 v11.1, .int .i64 v11.2, .slice a15 v15.length cp15, .bool v17, .slice none 0 0, .bool false, .int .i64 0, .int .i64 0, .bool false, .int .i64 0, .int .i64 0, .slice none 0 0, .slice none 0 0, .slice none 0 0]) rfl ?_; intro w18 h1 h2; have Kc18 := Lib.hid h1; have hw18 := Nat.le_trans hw17 h2.size; have HK18 := Lib.hid (keeps_after HK17.out h2 (by omega)); have HE18 := Lib.hid (eyeS_store HE17.out h2 (by have := HLT.out.1; omega) (by have := HLT.out.2.1; omega) (fun hne => by have := HLT.out.2.2 (fun e => hne (nil_of9 HL17.out e)); omega)); have p18 := HE18.out.ptr; have HL18 := HL17; have Kr18 := Lib.hid (grown_other9 Kr17.out h2 (by omega) (by omega)); have OO_18 := Lib.hid (ownG_kp OO_17.out (grown_lt h2 (by omega))); clear h1 h2) | ((with_reducible refine atC w16 ?_); go_at_call 125; go_must (refine (sbool_any HE16.out).mono ?_; intro e w17 h; unfold SeeS at h; obtain ⟨rfl, he1, hk1⟩ := h; have hk2 := (both_of (s := s) hk1); obtain ⟨c17, hc17⟩ : ∃ x, x = cB.fin c15 := ⟨_, rfl⟩; obtain ⟨v17, hv17⟩ : ∃ x, x = cB.val c15 := ⟨_, rfl⟩; rw [← hc17] at he1; rw [← hv17] at ⊢; have HE17 := Lib.hid he1; have p17 := he1.ptr; have HL17 : Hid (c17.1.length ≤ c.1.length) := Lib.hid (by rw [hc17]; exact Nat.le_trans (cB_ok.len c15) HL16.out); have HK17 := Lib.hid (HK16.out.then hk2); have hw17 := Nat.le_trans hw16 hk2.size; have Kr17 := Lib.hid ((hk2.block w.heap.size (by omega) (by have := HLT.out.1; have := HLT.out.2.1; rintro (e | e) <;> omega)).trans Kr16.out); have Kc17 := Lib.hid ((hk2.block (w.heap.size + 1) (by omega) (by have := HLT.out.1; have := HLT.out.2.1; rintro (e | e) <;> omega)).trans Kc16.out); have OO_17 := Lib.hid (ownG_kp OO_16.out (both_lt hk2 (by have := HLT.out.1; omega) (by have := HLT.out.2.1; omega))); have HC17 := Lib.hid hc17; have HV17 := Lib.hid hv17; clear hk1 hk2 he1 hc17 hv17)) | ((with_reducible refine atW w15 ?_); refine wpList_store_part _ _ _ rfl rfl _ 9 rfl rfl (cs := #[.slice a15 v15.length cp15]) rfl Kc15.out (by kernel_rfl) (by simp) (by simp [Value.oneCell']) (D := #[.int .i64 v2, .int .i64 v3, .int .i64 v4, .int .i64 v9.1, .int .i64 v9.2, .int .i64 v10.1, .int .i64 v10.2, .int .i64 v11.1, .int .i64 v11.2, .slice a15 v15.length cp15, .bool false, .slice none 0 0, .bool false, .int .i64 0, .int .i64 0, .bool false, .int .i64 0, .int .i64 0, .slice none 0 0, .slice none 0 0, .slice none 0 0]) rfl ?_; intro w16 h1 h2; have Kc16 := Lib.hid h1; have hw16 := Nat.le_trans hw15 h2.size; have HK16 := Lib.hid (keeps_after HK15.out h2 (by omega)); have HE16 := Lib.hid (eyeS_store HE15.out h2 (by have := HLT.out.1; omega) (by have := HLT.out.2.1; omega) (fun hne => by have := HLT.out.2.2 (fun e => hne (nil_of9 HL15.out e)); omega)); have p16 := HE16.out.ptr; have HL16 := HL15; have Kr16 := Lib.hid (grown_other9 Kr15.out h2 (by omega) (by omega)); have OO_16 := Lib.hid (ownG_kp OO_15.out (grown_lt h2 (by omega))); clear h1 h2) | ((with_reducible refine atC w14 ?_); go_at_call 124; go_must (refine (sops_any HE14.out (by have := HL14.out; have := HLN.out; omega)).mono ?_; intro e w15 h; unfold SeeL at h; obtain ⟨x15, rfl, ho1, he1, hk1⟩ := h; have hk2 := hk1; obtain ⟨c15, hc15⟩ : ∃ x, x = cO.list.fin c11 := ⟨_, rfl⟩; obtain ⟨v15, hv15⟩ : ∃ x, x = cO.list.val c11 := ⟨_, rfl⟩; rw [← hc15] at he1; rw [← hv15] at ho1; have HE15 := Lib.hid he1; have p15 := he1.ptr; have HL15 : Hid (c15.1.length ≤ c.1.length) := Lib.hid (by rw [hc15]; exact Nat.le_trans (cOs_ok.len c11) HL14.out); have HK15 := Lib.hid (HK14.out.then hk2); have hw15 := Nat.le_trans hw14 hk2.size; have Kr15 := Lib.hid ((hk2.block w.heap.size (by omega) (by have := HLT.out.1; have := HLT.out.2.1; rintro (e | e) <;> omega)).trans Kr14.out); have Kc15 := Lib.hid ((hk2.block (w.heap.size + 1) (by omega) (by have := HLT.out.1; have := HLT.out.2.1; rintro (e | e) <;> omega)).trans Kc14.out); have OO_15 := Lib.hid (ho1.mono hw14); obtain ⟨a15, cp15, rfl⟩ := ho1.form; have HC15 := Lib.hid hc15; have HV15 := Lib.hid hv15; clear hk1 hk2 he1 hc15 hv15 ho1)))
 have EV : mgOf (cM.val c) = ⟨v2, v3, v4, v9, v10, v11, v15, v17, v19, v21, v23, v25, v27, v29⟩ ∧ cM.fin c = c29 := by
  have e1 : cM.val c = (v2, v3, v4, v9, v10, v11, v15, v17, v19, v21, v23, v25, v27, v29) := by
   rw [HV29.out, HV27.out, HV25.out, HV23.out, HV21.out, HV19.out, HV17.out, HV15.out, HV11.out, HV10.out, HV9.out, HV4.out, HV3.out, HV2.out]
   rw [HC27.out, HC25.out, HC23.out, HC21.out, HC19.out, HC17.out, HC15.out, HC11.out, HC10.out, HC9.out, HC4.out, HC3.out, HC2.out]
   rfl
  refine ⟨by rw [e1]; rfl, ?_⟩
  rw [HC29.out, HC27.out, HC25.out, HC23.out, HC21.out, HC19.out, HC17.out, HC15.out, HC11.out, HC10.out, HC9.out, HC4.out, HC3.out, HC2.out]
  rfl
 refine bodyPost_ret (results_cell_row Tryz.results101 _ _ _ 61 _ (0, 0) _ rfl Kr31.out Tryz.underlying61 rfl szMsg) rfl ?_
 exact ⟨⟨.slice a15 v15.length cp15, .slice a19 fn19 cp19, .slice a25 fn25 cp25, .slice a27 v27.length cp27, .slice a29 v29.length cp29⟩, by rw [EV.1]; rfl, by rw [EV.1]; exact ⟨OO_31.out.mono (by omega), OS_31.out.mono (by omega), OD_31.out.mono (by omega), OW_31.out.mono (by omega), OP_31.out.mono (by omega)⟩, by rw [EV.2]; exact HE31.out, HK31.out⟩
end SI
end Go.Proofs.YtgipkikedacmdaaGreat

namespace Go.Proofs.YtgipkikedacmdaaGreat
open S3 SC SN SP
namespace SI
structure Pace {α : Type} (k : Cod α) (q : Nat) : Prop where
 step : ∀ c : Cur, ((k.fin c).1.length = c.1.length ∧ (k.fin c).2.1 = true) ∨ (k.fin c).1.length + q ≤ c.1.length
 stuck : ∀ c : Cur, c.2.1 = true → (k.fin c).1.length = c.1.length ∧ (k.fin c).2.1 = true
theorem behind_pace (ok : Bool) (k q : Nat) (l : List UInt8) (hq : q ≤ k) (hk : ok = true → k ≤ l.length) : ((S2.behind ok k l).length = l.length ∧ (!ok) = true) ∨ (S2.behind ok k l).length + q ≤ l.length := by
 cases ok
 ·exact .inl ⟨rfl, rfl⟩
 ·right
  have := hk rfl
  rw [behind_ok rfl, List.length_drop]
  omega
theorem pace_i : Pace cI 8 := by
 refine ⟨fun c => behind_pace _ _ _ _ (Nat.le_refl _) (fun h => (okI_yes h).2.1), fun c hc => ?_⟩
 have e : S2.okI c.1 c.2.1 = false := by unfold S2.okI; rw [hc]; rfl
 show (S2.behind (S2.okI c.1 c.2.1) 8 c.1).length = _ ∧ (!S2.okI c.1 c.2.1) = true
 rw [e]
 exact ⟨rfl, rfl⟩
theorem pace_n : Pace cN 8 := ⟨pace_i.step, pace_i.stuck⟩
theorem pace_t : Pace cT 4 := by
 refine ⟨fun c => behind_pace _ _ _ _ (by omega) (fun h => ?_), fun c hc => ?_⟩
 ·unfold S2.okT at h
  simp only [Bool.and_eq_true, decide_eq_true_eq] at h
  obtain ⟨_, h5, _, h7⟩ := h
  rw [List.length_drop] at h7
  omega
 ·have e : S2.okT c.1 c.2.1 = false := by unfold S2.okT; rw [hc]; rfl
  show (S2.behind (S2.okT c.1 c.2.1) _ c.1).length = _ ∧ (!S2.okT c.1 c.2.1) = true
  rw [e]
  exact ⟨rfl, rfl⟩
theorem pace_b : Pace cB 1 := by
 refine ⟨fun c => behind_pace _ _ _ _ (Nat.le_refl _) (fun h => ?_), fun c hc => ?_⟩
 ·unfold S2.okB at h
  simp only [Bool.and_eq_true, decide_eq_true_eq] at h
  exact h.2.1
 ·have e : S2.okB c.1 c.2.1 = false := by unfold S2.okB; rw [hc]; rfl
  show (S2.behind (S2.okB c.1 c.2.1) _ c.1).length = _ ∧ (!S2.okB c.1 c.2.1) = true
  rw [e]
  exact ⟨rfl, rfl⟩
theorem pace_l : Pace cL 8 := by
 refine ⟨fun c => behind_pace _ _ _ _ (by omega) (fun h => ?_), fun c hc => ?_⟩
 ·unfold S2.okL at h
  simp only [Bool.and_eq_true, decide_eq_true_eq] at h
  obtain ⟨_, h5, h6, h7⟩ := h
  omega
 ·have e : S2.okL c.1 c.2.1 = false := by unfold S2.okL; rw [hc]; rfl
  show (S2.behind (S2.okL c.1 c.2.1) _ c.1).length = _ ∧ (!S2.okL c.1 c.2.1) = true
  rw [e]
  exact ⟨rfl, rfl⟩
theorem Pace.two {α β : Type} {a : Cod α} {b : Cod β} {p q : Nat} (ha : Pace a p) (hb : Pace b q) (hl : ∀ c, (b.fin c).1.length ≤ c.1.length) : Pace (a.two b) p := by
 refine ⟨fun c => ?_, fun c hc => ?_⟩
 ·rcases ha.step c with ⟨h1, h2⟩ | h
  ·have := hb.stuck _ h2
   exact .inl ⟨this.1.trans h1, this.2⟩
  ·exact .inr (Nat.le_trans (Nat.add_le_add_right (hl _) _) h)
 ·have h1 := ha.stuck c hc
  have h2 := hb.stuck _ h1.2
  exact ⟨h2.1.trans h1.1, h2.2⟩
theorem many_pace {α : Type} {k : Cod α} {q : Nat} (hk : Pace k q) (n : Nat) : ∀ c, (many k n c).2.1.length + q * (many k n c).1.length ≤ c.1.length := by
 induction n with
 | zero => intro c; exact Nat.le_refl _
 | succ n ih =>
  intro c
  unfold many
  split
  ·rename_i h
   rw [h]
   exact Nat.le_refl _
  ·rename_i h
   have h1 := ih (k.fin c)
   rcases hk.step c with h2 | h2
   ·exact absurd h2.1 h
   ·simp only [List.length_cons, Nat.mul_add, Nat.mul_one]
    omega
theorem list_pace {α : Type} {k : Cod α} {q : Nat} (hk : Pace k q) (c : Cur) : (k.list.fin c).1.length + q * (k.list.val c).length ≤ c.1.length := by
 have h1 := many_pace hk (cI.val c).toNat (said c)
 have h2 := said_len c
 rw [list_fin, list_val]
 omega
theorem pace_o : Pace cO 8 := pace_i.two (pace_t.two (pace_t.two pace_n cN_ok.len) (Cod.two_ok cT_ok cN_ok).len) (Cod.two_ok cT_ok (Cod.two_ok cT_ok cN_ok)).len
theorem pace_d : Pace SD.cD 8 := pace_i.two pace_l cL_ok.len
theorem pace_w : Pace cW 4 := pace_t.two (pace_n.two pace_b cB_ok.len) (Cod.two_ok cN_ok cB_ok).len
theorem pace_p : Pace cP 4 := pace_t.two pace_n cN_ok.len
def k1 (B : List UInt8) : Cur := cS.fin (cS.fin (cS.fin (cI.fin (cI.fin (cI.fin (B, false, false))))))
def k2 (B : List UInt8) : Cur := cB.fin (cO.list.fin (k1 B))
def k3 (B : List UInt8) : Cur := cS.fin (cB.fin (cB.fin (cS.fin (cB.fin (SD.cD.list.fin (k2 B))))))
theorem k1_le (B : List UInt8) : (k1 B).1.length ≤ B.length :=
 Nat.le_trans (cS_ok.len _) (Nat.le_trans (cS_ok.len _) (Nat.le_trans (cS_ok.len _) (Nat.le_trans (cI_ok.len _) (Nat.le_trans (cI_ok.len _) (cI_ok.len (B, false, false))))))
theorem k2_le (B : List UInt8) : (k2 B).1.length ≤ B.length := Nat.le_trans (cB_ok.len _) (Nat.le_trans (cOs_ok.len _) (k1_le B))
def k4 (B : List UInt8) : Cur := cS.fin (cB.fin (cS.fin (cB.fin (SD.cD.list.fin (k2 B)))))
def k5 (B : List UInt8) : Cur := SD.cD.list.fin (k4 B)
def k6 (B : List UInt8) : Cur := cW.list.fin (k5 B)
theorem k4_le (B : List UInt8) : (k4 B).1.length ≤ B.length := Nat.le_trans (cS_ok.len _) (Nat.le_trans (cB_ok.len _) (Nat.le_trans (cS_ok.len _) (Nat.le_trans (cB_ok.len _) (Nat.le_trans (cDl_ok.len _) (k2_le B)))))
theorem k5_le (B : List UInt8) : (k5 B).1.length ≤ B.length := Nat.le_trans (cDl_ok.len _) (k4_le B)
theorem k6_le (B : List UInt8) : (k6 B).1.length ≤ B.length := Nat.le_trans (cWl_ok.len _) (k5_le B)
theorem read_ops (B : List UInt8) : (readM B).ops = cO.list.val (k1 B) := by kernel_rfl
theorem read_deps (B : List UInt8) : (readM B).deps = SD.cD.list.val (k2 B) := by kernel_rfl
theorem read_vdeps (B : List UInt8) : (readM B).val.2.2 = SD.cD.list.val (k4 B) := by kernel_rfl
theorem read_writes (B : List UInt8) : (readM B).writes = cW.list.val (k5 B) := by kernel_rfl
theorem read_pairs (B : List UInt8) : (readM B).pairs = cP.list.val (k6 B) := by kernel_rfl
theorem few_read (B : List UInt8) (hB : B.length ≤ 50000) : FewM (readM B) := by
 have L1 := k1_le B
 have L2 := k2_le B
 have L4 := k4_le B
 have L5 := k5_le B
 have L6 := k6_le B
 have M1 := list_pace pace_o (k1 B)
 have M2 := list_pace pace_d (k2 B)
 have M4 := list_pace pace_d (k4 B)
 have M5 := list_pace pace_w (k5 B)
 have M6 := list_pace pace_p (k6 B)
 have N2 := SD.list_cost (k2 B)
 have N4 := SD.list_cost (k4 B)
 refine ⟨?_, ⟨?_, ?_⟩, ⟨?_, ?_⟩, ?_, ?_⟩
 ·rw [read_ops]; omega
 ·rw [read_deps]; omega
 ·rw [read_deps]; omega
 ·rw [read_vdeps]; omega
 ·rw [read_vdeps]; omega
 ·rw [read_writes]; omega
 ·rw [read_pairs]; omega
theorem many_all13 {α : Type} {k : Cod α} {P : α → Prop} (h : ∀ c, P (k.val c)) (n : Nat) : ∀ c, ∀ x ∈ (many k n c).1, P x := by
 induction n with
 | zero => intro c x hx; cases hx
 | succ n ih =>
  intro c x hx
  unfold many at hx
  split at hx
  ·cases hx
  ·rcases List.mem_cons.1 hx with rfl | hx
   ·exact h c
   ·exact ih _ x hx
theorem num_read (B : List UInt8) (hB : B.length ≤ 50000) : NumM (readM B) := by
 have hf := few_read B hB
 refine ⟨?_, ?_, ?_, by have := hf.writes; omega, by have := hf.pairs; omega⟩
 ·rw [read_ops]; exact many_all13 (k := cO) (P := fun o => o.2.2.2 < 18446744073709551616) (fun c => u64_lt _) _ _
 ·rw [read_writes]; exact many_all13 (k := cW) (P := fun o => o.2.1 < 18446744073709551616) (fun c => u64_lt _) _ _
 ·rw [read_pairs]; exact many_all13 (k := cP) (P := fun o => o.2 < 18446744073709551616) (fun c => u64_lt _) _ _
theorem read_wf (B : List UInt8) : (Lit.int .i64 (readM B).kind).wf = true := by
 show (Lit.int .i64 (cI.val (B, false, false))).wf = true
 show (Lit.int .i64 (S2.valI B false)).wf = true
 unfold S2.valI
 split
 ·exact wrap64_wf _
 ·rfl
theorem lay_front {a b : Mg} (ha : cM.good a.tup) (hb : cM.good b.tup) {R : List UInt8} (h : layM a = layM b ++ R) : R = [] := by
 obtain ⟨h1, h2⟩ := front_curM ha (S2.i8 (sumN (bodyM a)))
 obtain ⟨h3, h4⟩ := front_curM hb (S2.i8 (sumN (bodyM b)) ++ R)
 have e : bodyM a ++ S2.i8 (sumN (bodyM a)) = bodyM b ++ (S2.i8 (sumN (bodyM b)) ++ R) := by rw [← List.append_assoc]; exact h
 rw [e, h4] at h2
 have h5 := congrArg (fun c : Cur => c.1.length) h2
 simp only [List.length_append, S2.i8_length] at h5
 exact List.eq_nil_of_length_eq_zero (by omega)
theorem parseM_cut {m : Mg} (hc : checkMB m = true) (hn : NumM m) {k : Nat} (hk : k < (layM m).length) (hl : (layM m).length ≤ 50000) : parseM ((layM m).take k) = none := by
 cases h : parseM ((layM m).take k) with
 | none => rfl
 | some y =>
  exfalso
  obtain ⟨h1, h2, h3⟩ := parseM_some h
  have hy := num_read ((layM m).take k) (by rw [List.length_take]; omega)
  rw [← h3] at hy
  have e : layM m = layM y ++ (layM m).drop k := by rw [h1, List.take_append_drop]
  have := lay_front (good_of (nice_of hc) hn) (good_of (nice_of h2) hy) e
  have h5 := congrArg List.length this
  rw [List.length_drop, List.length_nil] at h5
  omega
theorem parseM_more {m : Mg} (hc : checkMB m = true) (hn : NumM m) (x : UInt8) : parseM (layM m ++ [x]) = none := by
 rw [parseM_front hc hn, if_neg (by simp)]
theorem i8_inj {x y : Int} (hx : (Lit.int .i64 x).wf = true) (hy : (Lit.int .i64 y).wf = true) (h : S2.i8 x = S2.i8 y) : x = y := by
 have h1 := (cI_ok.front x [] hx).1
 have h2 := (cI_ok.front y [] hy).1
 have e : cI.lay x = cI.lay y := h
 rw [e, h2] at h1
 exact h1.symm
theorem sum_lt (l : List UInt8) : 0 ≤ S2.sumL l ∧ S2.sumL l < 18446744073709551616 := by
 rw [S2.sumL_bv]
 have := (l.foldl S2.stepB 14695981039346656037#64).isLt
 omega
theorem sumN_inj {a b : List UInt8} (h : sumN a = sumN b) : S2.sumL a = S2.sumL b := by
 have h1 := sum_lt a
 have h2 := sum_lt b
 unfold sumN RowKit.wrap64 at h
 omega
theorem parseM_turned {m : Mg} (hc : checkMB m = true) (hn : NumM m) {k : Nat} {x y : UInt8} (hx : (layM m)[k]? = some x) (hxy : x ≠ y) (hl : (layM m).length ≤ 50000) : parseM ((layM m).set k y) = none := by
 cases h : parseM ((layM m).set k y) with
 | none => rfl
 | some z =>
  exfalso
  obtain ⟨h1, h2, h3⟩ := parseM_some h
  have hk : k < (layM m).length := (List.getElem?_eq_some_iff.1 hx).1
  have hlen : (layM z).length = (layM m).length := by rw [h1, List.length_set]
  rw [layM_len, layM_len] at hlen
  have hb : (bodyM z).length = (bodyM m).length := by omega
  unfold layM at h1
  by_cases hin : k < (bodyM m).length
  ·rw [List.set_append_left _ _ hin] at h1
   obtain ⟨e1, e2⟩ := List.append_inj h1 (by rw [hb, List.length_set])
   have e3 := i8_inj (sumN_wf _) (sumN_wf _) e2
   rw [e1] at e3
   have hx2 : (bodyM m)[k]? = some x := by
    unfold layM at hx
    rwa [List.getElem?_append_left hin] at hx
   exact hxy ((S2.sum_set (bodyM m) k x y hx2).1 (sumN_inj e3).symm)
  ·rw [List.set_append_right _ _ (by omega)] at h1
   obtain ⟨e1, e2⟩ := List.append_inj h1 hb
   rw [e1] at e2
   have hx2 : (S2.i8 (sumN (bodyM m)))[k - (bodyM m).length]? = some x := by
    unfold layM at hx
    rwa [List.getElem?_append_right (by omega)] at hx
   have := congrArg (fun l => l[k - (bodyM m).length]?) e2
   simp only [List.getElem?_set_self', hx2] at this
   simp at this
   exact hxy this
end SI
end Go.Proofs.YtgipkikedacmdaaGreat
