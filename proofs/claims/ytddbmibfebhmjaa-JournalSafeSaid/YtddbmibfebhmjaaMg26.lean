/- live, the closed check that every statement of this stage ends with, returns true. Conditions: none. -/
import Derived.BigRegion
import Derived.Maps.AppendAt
import Derived.Lib.SlBytesConst
import Derived.Test.YtddbmibfebhmjaaMg25
import Derived.Test.YtddbmibfebhmjaaMg14
import Derived.Test.YtddbmibfebhmjaaMg05
set_option maxRecDepth 100000
set_option maxHeartbeats 16000000
set_option linter.unusedVariables false
namespace Go.Proofs.Ytddbmibfebhmjaa
open S2
namespace SZ
open Go.RowKit
theorem Bs.take {w : World} {g : Nat} {v : Value} {l : List UInt8} (h : Bs w g v l) {k : Nat} (hk : k ≤ l.length) {a : Option Addr} {c n : Nat} (hv : v = .slice a n c) : Bs w g (.slice a k c) (l.take k) := by
 subst hv
 rcases h with ⟨h1, rfl⟩ | ⟨o, cap, h1, h2, h3, h4⟩
 ·have hk0 : k = 0 := by simpa using hk
  subst hk0
  simp only [Value.slice.injEq] at h1
  obtain ⟨rfl, rfl, rfl⟩ := h1
  exact .inl ⟨rfl, rfl⟩
 ·simp only [Value.slice.injEq] at h1
  obtain ⟨rfl, rfl, rfl⟩ := h1
  refine .inr ⟨o, c, by rw [List.length_take, Nat.min_eq_left hk], by rw [List.length_take]; omega, h3, fun j x hx => h4 j x ?_⟩
  rw [List.getElem?_take] at hx
  split at hx
  ·exact hx
  ·cases hx
theorem row_block {w : World} {g : Option Nat} {v : Value} {l : List UInt8} (h : Row w g v l) (hne : l ≠ []) : ∃ b c cur, v = .slice (some ⟨b, 0, none⟩) l.length c ∧ g = some b ∧ w.heap[b]? = some (.cells cur 5 (0, 0)) ∧ l.length ≤ c ∧ c ≤ maxLen ∧ cur.size = c ∧ cur.toList.take l.length = bvs l := by
 obtain ⟨⟨h1, h2 | ⟨b, c, cur, hv, hb, hh, hc, hm, hs, ht⟩⟩, hg⟩ := h
 ·exact absurd (List.eq_nil_of_length_eq_zero h2.2) hne
 ·exact ⟨b, c, cur, hv, by rw [← hg, hv]; rfl, hh, hc, hm, by simpa using hs, by simpa using ht⟩
theorem row_set {w : World} {b : Nat} {v : Value} {l : List UInt8} (h : Row w (some b) v l) {i : Nat} (hi : i < l.length) (x : UInt8) : Row (w.setCell ⟨b, i, none⟩ (bv x)) (some b) v (l.set i x) := by
 have hne : l ≠ [] := by rintro rfl; simp at hi
 obtain ⟨⟨h1, h2 | ⟨b', c, cur, hv, hb, hh, hc, hm, hs, ht⟩⟩, hg⟩ := h
 ·exact absurd (List.eq_nil_of_length_eq_zero h2.2) hne
 ·have hbb : b' = b := by rw [hv] at hg; exact Option.some.inj hg
  subst hbb
  refine ⟨⟨by simp [bvs_length], .inr ⟨b', c, cur.setIfInBounds i (bv x), by rw [List.length_set]; exact hv, hb, blk_set hh _, by rw [List.length_set]; exact hc, hm, by rw [Array.size_setIfInBounds]; exact hs, ?_⟩⟩, hg⟩
  simp only [Nat.mul_one, List.length_set] at ht ⊢
  rw [Array.toList_setIfInBounds, List.take_set, ht]
  simp [bvs]
theorem turnB_set {l : List UInt8} {x : UInt8} (hx : l[l.length - 1]? = some x) (t : UInt8) : turnB l t = l.set (l.length - 1) (x ^^^ t) := by
 have hne : l ≠ [] := by rintro rfl; simp at hx
 have hl : l.getLast? = some x := by rw [List.getLast?_eq_getElem?]; exact hx
 unfold turnB
 rw [hl]
 have hg : l = l.dropLast ++ [x] := by
  have h1 := List.dropLast_concat_getLast hne
  have h2 : l.getLast hne = x := by
   rw [List.getLast?_eq_some_getLast hne] at hl
   exact Option.some.inj hl
  rw [h2] at h1
  exact h1.symm
 have hlen : l.dropLast.length = l.length - 1 := List.length_dropLast
 conv => rhs; rw [hg]
 show _ = (l.dropLast ++ [x]).set ((l.dropLast ++ [x]).length - 1) _
 rw [List.length_append, List.length_singleton, Nat.add_sub_cancel, List.set_append_right _ _ (Nat.le_refl _)]
 simp
theorem slice_run (W : World) (g n c k : Nat) (h : k ≤ c) : (Instr.slice 39 (.slice (some ⟨g, 0, none⟩) n c) none (some (.int .i64 (k : Int))) none).run Try.prog W = .ok (.slice (some ⟨g, 0, none⟩) k c) W := by
 simp [Instr.slice, Instr.sliceBounds, Instr.sliceBound, asIntOf, run_underlying Try.underlying39, h, Addr.add]
theorem xor_byte (a b : UInt8) : Value.int .u8 (bits BinOp.xor IntKind.u8 (a.toNat : Int) (b.toNat : Int)) = bv (a ^^^ b) := by
 revert a b
 have h : ∀ (a b : Fin 256), bits BinOp.xor IntKind.u8 ((UInt8.ofFin a).toNat : Int) ((UInt8.ofFin b).toNat : Int) = ((UInt8.ofFin a ^^^ UInt8.ofFin b).toNat : Int) := by decide +kernel
 intro a b
 have := h a.toFin b.toFin
 unfold bv
 congr 1
def CutR (w : World) (t : Nat) (rv : Value) (f : Fil) (T : Tl) (e : Ending) (w' : World) : Prop :=
 e = .returned (.int .i64 ((f.b.length : Int) - (cutF f T).b.length)) ∧ ∃ rv', TrkAt w' t rv' (cutF f T).s ∧ Row w' rv'.ownBlock rv' (cutF f T).b ∧ (rv'.ownBlock = rv.ownBlock ∨ New w rv'.ownBlock) ∧ Keeps (fun k => k = t ∨ rv.ownBlock = some k) w w'
theorem cutT_any (w : World) (t : Nat) (rv : Value) (f : Fil) (T : Tl) (ht : TrkAt w t rv f.s) (hr : Row w rv.ownBlock rv f.b) (hs : f.s ≤ f.b.length) (hl : f.b.length ≤ 4194304) (hw : (Lit.int .i64 T.keep).wf = true) :
  Calls Try.prog 50 #[.pointer (some ⟨t, 0, none⟩), .agg #[.int .i64 T.file, .int .i64 T.keep, bv T.turn]] w (CutR w t rv f T) := by
 have t0 := blk_cell ht 0
 have t1 := blk_cell ht 1
 have f0 := blk_soft ht 0
 have f1 := blk_soft ht 1
 have hlt := lt_of_block ht
 obtain ⟨va, vc, hva⟩ := row_slice hr
 simp [hva] at t0
 simp at t1
 have hsub : wrap64 ((f.b.length : Int) - (f.s : Int)) = (f.b.length : Int) - (f.s : Int) := by unfold wrap64; omega
 have hb := wf_bounds hw
 obtain ⟨K, hK⟩ : ∃ K : Nat, K = keepF f T := ⟨_, rfl⟩
 have hk : (K : Int) = min (max T.keep 0) ((f.b.length : Int) - (f.s : Int)) := by rw [hK]; unfold keepF; omega
 have hle : f.s + K ≤ f.b.length := by rw [hK]; exact keepF_le f T hs
 have hkk : min (max T.keep 0) ((f.b.length : Int) - (f.s : Int)) = (K : Int) := hk.symm
 have hcap : f.b.length ≤ vc := by
  rcases hr.bs with ⟨h1, h2⟩ | ⟨o, cap, h1, h2, _⟩
  ·rw [h2]; exact Nat.zero_le _
  ·rw [hva] at h1
   simp only [Value.slice.injEq] at h1
   rw [h1.2.2]
   exact h2
 obtain ⟨Q, hQ⟩ : ∃ Q, Q = f.s + K := ⟨_, rfl⟩
 have hadd : wrap64 ((f.s : Int) + (K : Int)) = (Q : Int) := by unfold wrap64; omega
 have hadd2 : IntKind.i64.wrap ((f.s : Int) + (K : Int)) = (Q : Int) := by rw [IntKind.wrap_i64]; unfold wrap64 at hadd; exact hadd
 have HQ := Lib.hid hQ
 clear hQ
 have HT := Lib.hid ht
 have HR := Lib.hid hr
 have HV := Lib.hid hva
 have HK := Lib.hid hK
 clear ht hr hva hK hk
 have hkb : Keeps (fun _ => False) w (w.alloc (.cells #[.int .i64 T.file, .int .i64 T.keep, .int .u8 T.turn.toNat] 61)) := Keeps.alloc _ _ _
 have hbox := heap_alloc_new w (.cells #[.int .i64 T.file, .int .i64 T.keep, .int .u8 T.turn.toNat] 61)
 have HKB := Lib.hid hkb
 have HBOX := Lib.hid hbox
 clear hkb hbox
 by_cases h1 : (K : Int) < (f.b.length : Int) - (f.s : Int)
 ·have hd1 : decide ((K : Int) < (f.b.length : Int) - (f.s : Int)) = true := decide_eq_true h1
  by_cases h2 : (0 : Int) < (K : Int)
  ·have hd2 : decide ((0 : Int) < (K : Int)) = true := decide_eq_true h2
   go_enter Try.func50, Try.ntmps50
   unfold bv
   go_wp2
   go_quiet (fail)
   have hkx : Keeps (fun _ => False) w ((w.alloc (.cells #[.int .i64 T.file, .int .i64 T.keep, .int .u8 T.turn.toNat] 61)).drewN nq) := HKB.out.then (keeps_drewN _ _ _)
   have hbox : ((w.alloc (.cells #[.int .i64 T.file, .int .i64 T.keep, .int .u8 T.turn.toNat] 61)).drewN nq).heap[w.heap.size]? = some (.cells #[.int .i64 T.file, .int .i64 T.keep, .int .u8 T.turn.toNat] 61 (0, 0)) := HBOX.out
   generalize (w.alloc (.cells #[.int .i64 T.file, .int .i64 T.keep, .int .u8 T.turn.toNat] 61)).drewN nq = x at *
   obtain ⟨B, hB⟩ : ∃ B, B = w.heap.size := ⟨_, rfl⟩
   rw [← hB] at hbox ⊢
   have HBE := Lib.hid hB
   clear hB
   replace t0 := hkx.cell (b := t) (o := 0) (fun h => h) t0
   replace t1 := hkx.cell (b := t) (o := 1) (fun h => h) t1
   have hrx := HR.out.keep hkx (fun _ _ h => h)
   have htx : TrkAt x t rv f.s := (hkx.block t hlt (fun h => h)).trans HT.out
   have HLT := Lib.hid hlt
   replace f0 := blk_soft htx 0
   replace f1 := blk_soft htx 1
   replace hlt := lt_of_block htx
   have b1 := blk_cell hbox 1
   have b2 := blk_cell hbox 2
   have hlB := lt_of_block hbox
   simp at b1 b2
   have HBX := Lib.hid hbox
   have HRX := Lib.hid hrx
   have HTX := Lib.hid htx
   have HKX := Lib.hid hkx
   have hcl := (clone_any x.drew _ _ _ (Bs.take (HRX.out.bs.keep (Keeps.drew (fun _ => False) x) (fun _ h => h)) (k := Q) (by have := HQ.out; omega) HV.out) (by rw [List.length_take]; omega))
   obtain ⟨L2, hL2⟩ : ∃ L2, L2 = f.b.take Q := ⟨_, rfl⟩
   have hLn : L2.length = Q := by rw [hL2, List.length_take]; have := HQ.out; omega
   rw [← hL2] at hcl
   have HCL := Lib.hid hcl
   have HL2 := Lib.hid hL2
   have HLN := Lib.hid hLn
   clear hcl hL2 hLn hkx hbox hrx htx HKB HBOX
   have hne : f.b ≠ [] := by intro h; rw [h] at h1; simp at h1; omega
   obtain ⟨g, c1, cur, hv1, hg1, hcur, _⟩ := row_block HRX.out hne
   have hva : va = some ⟨g, 0, none⟩ := by
    have e := HV.out
    rw [hv1] at e
    simp only [Value.slice.injEq] at e
    exact e.1.symm
   subst hva
   have HG := Lib.hid hg1
   have HCUR := Lib.hid hcur
   clear hv1 hg1 hcur
   go_wp2
   have hsl := fun W => slice_run W g f.b.length vc Q (by have := HQ.out; omega)
   have HLE := Lib.hid hle
   clear hcap hle h1 hd1 hkk hsub hne
   go_region_law
    (first | (try go_simp; go_at_call 64; refine HCL.out.mono ?_; rintro r w2 ⟨v2, g2, rfl, m1, m2, m3⟩; obtain ⟨va2, vc2, hv2⟩ := row_slice m1; rw [HLN.out] at hv2; subst hv2; have hk2 := Keeps.ofBelow (S := fun _ => False) m3; have htx2 : TrkAt w2 t rv f.s := (hk2.block t hlt (fun h => h)).trans HTX.out; have f02 := blk_soft htx2 0; have hlt2 := lt_of_block htx2; have u0 := hk2.cell (b := t) (o := 0) (fun h => h) (show x.drew.cell? ⟨t, 0, none⟩ = _ from t0); have M1 := Lib.hid m1; have M2 := Lib.hid m2; have HK2 := Lib.hid hk2; have HTX2 := Lib.hid htx2; clear m1 m2 m3 hk2 htx2))
   all_goals
    have hset : Keeps (fun k => k = t) w2 (w2.setCell ⟨t, 0, none⟩ (.slice va2 Q vc2)) := keeps_set _
    have htY : TrkAt (w2.setCell ⟨t, 0, none⟩ (.slice va2 Q vc2)) t (.slice va2 Q vc2) f.s := trk_set0 HTX2.out _
    have hrY := M1.out.keep hset (fun k hk e => by subst e; exact row_ne M1.out HTX2.out ty_ne2 hk)
    have hbY := hset.block B (Nat.lt_of_lt_of_le hlB HK2.out.size) (fun e => by have := HBE.out; have := HLT.out; omega)
    have hbY2 := hbY.trans (HK2.out.block B hlB (fun h => h))
    have HBY := Lib.hid (hbY2.trans (show x.drew.heap[B]? = _ from HBX.out))
    have hkY : Keeps (fun k => k = t) w (w2.setCell ⟨t, 0, none⟩ (.slice va2 Q vc2)) := ((HKX.out.mono (fun _ _ h => h.elim)).then ((Keeps.drew _ x).then (HK2.out.mono (fun _ _ h => h.elim)))).then hset
    have HTY := Lib.hid htY
    have HRY : Hid (Row (w2.setCell ⟨t, 0, none⟩ (.slice va2 Q vc2)) (Value.slice va2 Q vc2).ownBlock (.slice va2 Q vc2) L2) := by show Row _ _ _ _; rw [hrY.2]; exact hrY
    have HKY := Lib.hid (hkY.mono (T := fun k => k = t ∨ rv.ownBlock = some k) (fun _ _ h => .inl h))
    have HNY : Hid ((Value.slice va2 Q vc2).ownBlock = rv.ownBlock ∨ New w (Value.slice va2 Q vc2).ownBlock) := by
     show _ ∨ _
     refine .inr ?_
     rw [hrY.2]
     exact New.later (b := x) M2.out HKX.out
    clear hset htY hrY hbY hbY2 hkY t0 t1 f0 f1 f02 hlt2 u0 hsl b1 b2 hlB hlt
    generalize w2.setCell ⟨t, 0, none⟩ (.slice va2 Q vc2) = y at *
    have hle := HLE.out
    have hQ4 : Q ≤ 4194304 := by have := HQ.out; omega
    have hp2 : (0 : Int) < (Q : Int) := by have := HQ.out; omega
    have hne2 : L2 ≠ [] := by intro h; have e := HLN.out; rw [h] at e; simp at e; omega
    obtain ⟨g3, c3, cur3, hv3, hg3, hcur3, hlc3, _⟩ := row_block HRY.out hne2
    rw [HLN.out] at hv3 hlc3
    simp only [Value.slice.injEq] at hv3
    obtain ⟨hva2, _, hvc2⟩ := hv3
    subst hva2
    have hg4 : (Value.slice (some ⟨g3, 0, none⟩) Q vc2).ownBlock = some g3 := rfl
    obtain ⟨b0, hb0⟩ := get_lt14 (l := L2) (k := Q - 1) (by have := HLN.out; omega)
    have y0 := blk_cell HTY.out 0
    have y1 := blk_cell HTY.out 1
    have e0 := blk_soft HTY.out 0
    have e1 := blk_soft HTY.out 1
    have ylt := lt_of_block HTY.out
    have z2 := blk_cell HBY.out 2
    have zlt := lt_of_block HBY.out
    simp at y0 y1 z2
    have hcb : y.cell? ⟨g3, Q - 1, none⟩ = some (.int .u8 (b0.toNat : Int)) := by
     rcases HRY.out.bs with ⟨h1, _⟩ | ⟨o, cap, h1, _, _, h2⟩
     ·cases h1
     ·simp only [Value.slice.injEq, Option.some.injEq, Addr.mk.injEq] at h1
      obtain ⟨⟨h3, h4, _⟩, _⟩ := h1
      have := h2 (Q - 1) b0 hb0
      rw [← h4] at this
      simpa [bv, Value.ownBlock] using this
    have hfb : y.frozen? ⟨g3, Q - 1, none⟩ = false := blk_soft (by rw [hcur3]) _
    have hgq : g3 < y.heap.size := lt_of_block hcur3
    have hm1 : IntKind.i64.wrap ((Q : Int) - 1) = ((Q - 1 : Nat) : Int) := by rw [IntKind.wrap_i64]; omega
    have hm2 : wrap64 ((Q : Int) - 1) = ((Q - 1 : Nat) : Int) := by unfold wrap64; omega
    have hm3 : (0 : Int) ≤ ((Q - 1 : Nat) : Int) := Int.natCast_nonneg _
    have hm4 : ((Q - 1 : Nat) : Int) < (Q : Int) := by omega
    have HB0 := Lib.hid hb0
    have HC3 := Lib.hid hcur3
    have hg3t : t ≠ g3 := fun e => by subst e; have h5 := HTY.out; unfold TrkAt at h5; rw [hcur3] at h5; exact ty_ne2 (Obj.cells.inj (Option.some.inj h5)).2.1.symm
    clear hb0 hcur3 hg3 hne2 hvc2 hlc3
    go_wp2
    go_region
    have hx1 := xor_byte b0 T.turn
    rw [hx1]
    have hyk : Keeps (fun k => k = g3) y (y.setCell ⟨g3, Q - 1, none⟩ (bv (b0 ^^^ T.turn))).drew := (keeps_set _).then (Keeps.drew _ _)
    have hrow := HRY.out
    rw [hg4] at hrow
    have hrz : Row (y.setCell ⟨g3, Q - 1, none⟩ (bv (b0 ^^^ T.turn))).drew (some g3) (.slice (some ⟨g3, 0, none⟩) Q vc2) (L2.set (Q - 1) (b0 ^^^ T.turn)) := (row_set hrow (by have := HLN.out; omega) _).keep (Keeps.drew (fun _ => False) _) (fun _ _ h => h)
    have htz : TrkAt (y.setCell ⟨g3, Q - 1, none⟩ (bv (b0 ^^^ T.turn))).drew t (.slice (some ⟨g3, 0, none⟩) Q vc2) f.s := (hyk.block t ylt hg3t).trans HTY.out
    have HYK := Lib.hid hyk
    have HRZ := Lib.hid hrz
    have HTZ := Lib.hid htz
    clear y0 y1 e0 e1 ylt z2 zlt hcb hfb hgq hm1 hm2 hm3 hm4 hyk hrow hrz htz hx1
    generalize (y.setCell ⟨g3, Q - 1, none⟩ (bv (b0 ^^^ T.turn))).drew = z at *
    have y0 := blk_cell HTZ.out 0
    have y1 := blk_cell HTZ.out 1
    have e0 := blk_soft HTZ.out 0
    have e1 := blk_soft HTZ.out 1
    have ylt := lt_of_block HTZ.out
    simp at y0 y1
    have hs0 : wrap64 ((f.b.length : Int) - (f.s : Int) - (K : Int)) = (f.b.length : Int) - (f.s : Int) - (K : Int) := by unfold wrap64; omega
    go_wp2
    go_ret
    have hset : Keeps (fun k => k = t) z (z.setCell ⟨t, 1, none⟩ (.int .i64 (Q : Int))) := keeps_set _
    have hcl : (cutF f T).b.length = Q := by rw [cutF_len f T hs, ← HK.out]; exact HQ.out.symm
    have hcs : (cutF f T).s = Q := by show f.s + keepF f T = Q; rw [← HK.out]; exact HQ.out.symm
    have hcb : (cutF f T).b = L2.set (Q - 1) (b0 ^^^ T.turn) := by
     unfold cutF
     dsimp only
     rw [← HK.out, if_pos (by omega), ← HQ.out, ← HL2.out]
     have e := HB0.out
     rw [← HLN.out] at e ⊢
     exact turnB_set e _
    have hval : (f.b.length : Int) - (f.s : Int) - (K : Int) = (f.b.length : Int) - ((cutF f T).b.length : Int) := by rw [hcl]; have := HQ.out; omega
    refine ⟨congrArg (fun i => Ending.returned (.int .i64 i)) hval, .slice (some ⟨g3, 0, none⟩) Q vc2, ?_, ?_, HNY.out, (HKY.out.trans HYK.out (fun k hk e => ?_)).trans hset (fun k _ e => .inl e)⟩
    ·rw [hcs]; exact trk_set HTZ.out Q
    ·rw [hcb, hg4]
     exact HRZ.out.keep hset (fun k hk e => by subst e; exact hg3t (by cases hk; rfl))
    ·rcases HNY.out with h | h
     ·rw [hg4] at h; exact .inr (by rw [← h, e])
     ·have := h g3 hg4; omega
  ·have hd2 : decide ((0 : Int) < (K : Int)) = false := decide_eq_false h2
   go_enter Try.func50, Try.ntmps50
   unfold bv
   go_wp2
   go_quiet (fail)
   have hkx : Keeps (fun _ => False) w ((w.alloc (.cells #[.int .i64 T.file, .int .i64 T.keep, .int .u8 T.turn.toNat] 61)).drewN nq) := HKB.out.then (keeps_drewN _ _ _)
   have hbox : ((w.alloc (.cells #[.int .i64 T.file, .int .i64 T.keep, .int .u8 T.turn.toNat] 61)).drewN nq).heap[w.heap.size]? = some (.cells #[.int .i64 T.file, .int .i64 T.keep, .int .u8 T.turn.toNat] 61 (0, 0)) := HBOX.out
   generalize (w.alloc (.cells #[.int .i64 T.file, .int .i64 T.keep, .int .u8 T.turn.toNat] 61)).drewN nq = x at *
   obtain ⟨B, hB⟩ : ∃ B, B = w.heap.size := ⟨_, rfl⟩
   rw [← hB] at hbox ⊢
   have HBE := Lib.hid hB
   clear hB
   replace t0 := hkx.cell (b := t) (o := 0) (fun h => h) t0
   replace t1 := hkx.cell (b := t) (o := 1) (fun h => h) t1
   have hrx := HR.out.keep hkx (fun _ _ h => h)
   have htx : TrkAt x t rv f.s := (hkx.block t hlt (fun h => h)).trans HT.out
   have HLT := Lib.hid hlt
   replace f0 := blk_soft htx 0
   replace f1 := blk_soft htx 1
   replace hlt := lt_of_block htx
   have b1 := blk_cell hbox 1
   have b2 := blk_cell hbox 2
   have hlB := lt_of_block hbox
   simp at b1 b2
   have HBX := Lib.hid hbox
   have HRX := Lib.hid hrx
   have HTX := Lib.hid htx
   have HKX := Lib.hid hkx
   have hcl := (clone_any x.drew _ _ _ (Bs.take (HRX.out.bs.keep (Keeps.drew (fun _ => False) x) (fun _ h => h)) (k := Q) (by have := HQ.out; omega) HV.out) (by rw [List.length_take]; omega))
   obtain ⟨L2, hL2⟩ : ∃ L2, L2 = f.b.take Q := ⟨_, rfl⟩
   have hLn : L2.length = Q := by rw [hL2, List.length_take]; have := HQ.out; omega
   rw [← hL2] at hcl
   have HCL := Lib.hid hcl
   have HL2 := Lib.hid hL2
   have HLN := Lib.hid hLn
   clear hcl hL2 hLn hkx hbox hrx htx HKB HBOX
   have hne : f.b ≠ [] := by intro h; rw [h] at h1; simp at h1; omega
   obtain ⟨g, c1, cur, hv1, hg1, hcur, _⟩ := row_block HRX.out hne
   have hva : va = some ⟨g, 0, none⟩ := by
    have e := HV.out
    rw [hv1] at e
    simp only [Value.slice.injEq] at e
    exact e.1.symm
   subst hva
   have HG := Lib.hid hg1
   have HCUR := Lib.hid hcur
   clear hv1 hg1 hcur
   go_wp2
   have hsl := fun W => slice_run W g f.b.length vc Q (by have := HQ.out; omega)
   have HLE := Lib.hid hle
   clear hcap hle h1 hd1 hkk hsub hne
   go_region_law
    (first | (try go_simp; go_at_call 64; refine HCL.out.mono ?_; rintro r w2 ⟨v2, g2, rfl, m1, m2, m3⟩; obtain ⟨va2, vc2, hv2⟩ := row_slice m1; rw [HLN.out] at hv2; subst hv2; have hk2 := Keeps.ofBelow (S := fun _ => False) m3; have htx2 : TrkAt w2 t rv f.s := (hk2.block t hlt (fun h => h)).trans HTX.out; have f02 := blk_soft htx2 0; have hlt2 := lt_of_block htx2; have u0 := hk2.cell (b := t) (o := 0) (fun h => h) (show x.drew.cell? ⟨t, 0, none⟩ = _ from t0); have M1 := Lib.hid m1; have M2 := Lib.hid m2; have HK2 := Lib.hid hk2; have HTX2 := Lib.hid htx2; clear m1 m2 m3 hk2 htx2))
   all_goals
    have hset : Keeps (fun k => k = t) w2 (w2.setCell ⟨t, 0, none⟩ (.slice va2 Q vc2)) := keeps_set _
    have htY : TrkAt (w2.setCell ⟨t, 0, none⟩ (.slice va2 Q vc2)) t (.slice va2 Q vc2) f.s := trk_set0 HTX2.out _
    have hrY := M1.out.keep hset (fun k hk e => by subst e; exact row_ne M1.out HTX2.out ty_ne2 hk)
    have hbY := hset.block B (Nat.lt_of_lt_of_le hlB HK2.out.size) (fun e => by have := HBE.out; have := HLT.out; omega)
    have hbY2 := hbY.trans (HK2.out.block B hlB (fun h => h))
    have HBY := Lib.hid (hbY2.trans (show x.drew.heap[B]? = _ from HBX.out))
    have hkY : Keeps (fun k => k = t) w (w2.setCell ⟨t, 0, none⟩ (.slice va2 Q vc2)) := ((HKX.out.mono (fun _ _ h => h.elim)).then ((Keeps.drew _ x).then (HK2.out.mono (fun _ _ h => h.elim)))).then hset
    have HTY := Lib.hid htY
    have HRY : Hid (Row (w2.setCell ⟨t, 0, none⟩ (.slice va2 Q vc2)) (Value.slice va2 Q vc2).ownBlock (.slice va2 Q vc2) L2) := by show Row _ _ _ _; rw [hrY.2]; exact hrY
    have HKY := Lib.hid (hkY.mono (T := fun k => k = t ∨ rv.ownBlock = some k) (fun _ _ h => .inl h))
    have HNY : Hid ((Value.slice va2 Q vc2).ownBlock = rv.ownBlock ∨ New w (Value.slice va2 Q vc2).ownBlock) := by
     show _ ∨ _
     refine .inr ?_
     rw [hrY.2]
     exact New.later (b := x) M2.out HKX.out
    clear hset htY hrY hbY hbY2 hkY t0 t1 f0 f1 f02 hlt2 u0 hsl b1 b2 hlB hlt
    generalize w2.setCell ⟨t, 0, none⟩ (.slice va2 Q vc2) = y at *
    have hle := HLE.out
    have hQ4 : Q ≤ 4194304 := by have := HQ.out; omega
    have y0 := blk_cell HTY.out 0
    have y1 := blk_cell HTY.out 1
    have e0 := blk_soft HTY.out 0
    have e1 := blk_soft HTY.out 1
    have ylt := lt_of_block HTY.out
    simp at y0 y1
    have hK0 : K = 0 := by omega
    subst hK0
    have hs0 : wrap64 ((f.b.length : Int) - (f.s : Int) - ((0 : Nat) : Int)) = (f.b.length : Int) - (f.s : Int) := by unfold wrap64; omega
    go_wp2
    go_ret
    have hset : Keeps (fun k => k = t) y (y.setCell ⟨t, 1, none⟩ (.int .i64 (Q : Int))) := keeps_set _
    have hk0 : keepF f T = 0 := HK.out.symm
    have hQs : Q = f.s := by have := HQ.out; omega
    have hcl : (cutF f T).b.length = Q := by rw [cutF_len f T hs, hk0, hQs]; rfl
    have hcs : (cutF f T).s = Q := by show f.s + keepF f T = Q; rw [hk0, hQs]; rfl
    have hcb : (cutF f T).b = L2 := by
     unfold cutF
     dsimp only
     rw [hk0, if_neg (by omega), HL2.out, hQs]
    have hval : (f.b.length : Int) - (f.s : Int) = (f.b.length : Int) - ((cutF f T).b.length : Int) := by rw [hcl, hQs]
    refine ⟨congrArg (fun i => Ending.returned (.int .i64 i)) hval, .slice va2 Q vc2, ?_, ?_, HNY.out, HKY.out.trans hset (fun k _ e => .inl e)⟩
    ·rw [hcs]; exact trk_set HTY.out Q
    ·rw [hcb]
     exact HRY.out.keep hset (fun k hk e => by subst e; exact row_ne HRY.out HTY.out ty_ne2 hk)
 ·have hd1 : decide ((K : Int) < (f.b.length : Int) - (f.s : Int)) = false := decide_eq_false h1
  by_cases h2 : (0 : Int) < (K : Int)
  ·have hd2 : decide ((0 : Int) < (K : Int)) = true := decide_eq_true h2
   go_enter Try.func50, Try.ntmps50
   unfold bv
   go_wp2
   go_quiet (fail)
   have hkx : Keeps (fun _ => False) w ((w.alloc (.cells #[.int .i64 T.file, .int .i64 T.keep, .int .u8 T.turn.toNat] 61)).drewN nq) := HKB.out.then (keeps_drewN _ _ _)
   have hbox : ((w.alloc (.cells #[.int .i64 T.file, .int .i64 T.keep, .int .u8 T.turn.toNat] 61)).drewN nq).heap[w.heap.size]? = some (.cells #[.int .i64 T.file, .int .i64 T.keep, .int .u8 T.turn.toNat] 61 (0, 0)) := HBOX.out
   generalize (w.alloc (.cells #[.int .i64 T.file, .int .i64 T.keep, .int .u8 T.turn.toNat] 61)).drewN nq = x at *
   obtain ⟨B, hB⟩ : ∃ B, B = w.heap.size := ⟨_, rfl⟩
   rw [← hB] at hbox ⊢
   have HBE := Lib.hid hB
   clear hB
   replace t0 := hkx.cell (b := t) (o := 0) (fun h => h) t0
   replace t1 := hkx.cell (b := t) (o := 1) (fun h => h) t1
   have hrx := HR.out.keep hkx (fun _ _ h => h)
   have htx : TrkAt x t rv f.s := (hkx.block t hlt (fun h => h)).trans HT.out
   have HLT := Lib.hid hlt
   replace f0 := blk_soft htx 0
   replace f1 := blk_soft htx 1
   replace hlt := lt_of_block htx
   have b1 := blk_cell hbox 1
   have b2 := blk_cell hbox 2
   have hlB := lt_of_block hbox
   simp at b1 b2
   have HBX := Lib.hid hbox
   have HRX := Lib.hid hrx
   have HTX := Lib.hid htx
   have HKX := Lib.hid hkx
   have hQl : Q = f.b.length := by have := HQ.out; omega
   have HTY := HTX
   have hsl2 := HV.out
   obtain ⟨va2, hva2⟩ : ∃ va2, va2 = va := ⟨_, rfl⟩
   obtain ⟨vc2, hvc2⟩ : ∃ vc2, vc2 = vc := ⟨_, rfl⟩
   subst hva2 hvc2
   obtain ⟨L2, hL2⟩ : ∃ L2, L2 = f.b := ⟨_, rfl⟩
   have HL2 : Hid (L2 = f.b.take Q) := by show _ = _; rw [hL2, hQl, List.take_length]
   have HLN : Hid (L2.length = Q) := by show _ = _; rw [hL2, hQl]
   have HRY : Hid (Row x (Value.slice va2 Q vc2).ownBlock (.slice va2 Q vc2) L2) := by show Row _ _ _ _; rw [hL2, hQl, ← hsl2]; exact HRX.out
   have HTY : Hid (TrkAt x t (.slice va2 Q vc2) f.s) := by show TrkAt _ _ _ _; rw [hQl, ← hsl2]; exact HTX.out
   have HBY := HBX
   have HKY := Lib.hid (hkx.mono (T := fun k => k = t ∨ rv.ownBlock = some k) (fun _ _ h => h.elim))
   have HNY : Hid ((Value.slice va2 Q vc2).ownBlock = rv.ownBlock ∨ New w (Value.slice va2 Q vc2).ownBlock) := by
    show _ ∨ _
    exact .inl (by rw [hsl2, hQl])
   clear hkx hbox hrx htx HKB HBOX hsl2 hL2 f0 f1 hlt b2 HV t0 t1 hQl
   generalize x = y at *
   have hQ4 : Q ≤ 4194304 := by have := HQ.out; omega
   have hp2 : (0 : Int) < (Q : Int) := by have := HQ.out; omega
   have hne2 : L2 ≠ [] := by intro h; have e := HLN.out; rw [h] at e; simp at e; omega
   obtain ⟨g3, c3, cur3, hv3, hg3, hcur3, hlc3, _⟩ := row_block HRY.out hne2
   rw [HLN.out] at hv3 hlc3
   simp only [Value.slice.injEq] at hv3
   obtain ⟨hva2, _, hvc2⟩ := hv3
   subst hva2
   have hg4 : (Value.slice (some ⟨g3, 0, none⟩) Q vc2).ownBlock = some g3 := rfl
   obtain ⟨b0, hb0⟩ := get_lt14 (l := L2) (k := Q - 1) (by have := HLN.out; omega)
   have y0 := blk_cell HTY.out 0
   have y1 := blk_cell HTY.out 1
   have e0 := blk_soft HTY.out 0
   have e1 := blk_soft HTY.out 1
   have ylt := lt_of_block HTY.out
   have z2 := blk_cell HBY.out 2
   have zlt := lt_of_block HBY.out
   simp at y0 y1 z2
   have hcb : y.cell? ⟨g3, Q - 1, none⟩ = some (.int .u8 (b0.toNat : Int)) := by
    rcases HRY.out.bs with ⟨h1, _⟩ | ⟨o, cap, h1, _, _, h2⟩
    ·cases h1
    ·simp only [Value.slice.injEq, Option.some.injEq, Addr.mk.injEq] at h1
     obtain ⟨⟨h3, h4, _⟩, _⟩ := h1
     have := h2 (Q - 1) b0 hb0
     rw [← h4] at this
     simpa [bv, Value.ownBlock] using this
   have hfb : y.frozen? ⟨g3, Q - 1, none⟩ = false := blk_soft (by rw [hcur3]) _
   have hgq : g3 < y.heap.size := lt_of_block hcur3
   have hm1 : IntKind.i64.wrap ((Q : Int) - 1) = ((Q - 1 : Nat) : Int) := by rw [IntKind.wrap_i64]; omega
   have hm2 : wrap64 ((Q : Int) - 1) = ((Q - 1 : Nat) : Int) := by unfold wrap64; omega
   have hm3 : (0 : Int) ≤ ((Q - 1 : Nat) : Int) := Int.natCast_nonneg _
   have hm4 : ((Q - 1 : Nat) : Int) < (Q : Int) := by omega
   have HB0 := Lib.hid hb0
   have HC3 := Lib.hid hcur3
   have hg3t : t ≠ g3 := fun e => by subst e; have h5 := HTY.out; unfold TrkAt at h5; rw [hcur3] at h5; exact ty_ne2 (Obj.cells.inj (Option.some.inj h5)).2.1.symm
   clear hb0 hcur3 hg3 hne2 hvc2 hlc3
   go_wp2
   go_region
   have hx1 := xor_byte b0 T.turn
   rw [hx1]
   have hyk : Keeps (fun k => k = g3) y (y.setCell ⟨g3, Q - 1, none⟩ (bv (b0 ^^^ T.turn))).drew := (keeps_set _).then (Keeps.drew _ _)
   have hrow := HRY.out
   rw [hg4] at hrow
   have hrz : Row (y.setCell ⟨g3, Q - 1, none⟩ (bv (b0 ^^^ T.turn))).drew (some g3) (.slice (some ⟨g3, 0, none⟩) Q vc2) (L2.set (Q - 1) (b0 ^^^ T.turn)) := (row_set hrow (by have := HLN.out; omega) _).keep (Keeps.drew (fun _ => False) _) (fun _ _ h => h)
   have htz : TrkAt (y.setCell ⟨g3, Q - 1, none⟩ (bv (b0 ^^^ T.turn))).drew t (.slice (some ⟨g3, 0, none⟩) Q vc2) f.s := (hyk.block t ylt hg3t).trans HTY.out
   have HYK := Lib.hid hyk
   have HRZ := Lib.hid hrz
   have HTZ := Lib.hid htz
   clear y0 y1 e0 e1 ylt z2 zlt hcb hfb hgq hm1 hm2 hm3 hm4 hyk hrow hrz htz hx1
   generalize (y.setCell ⟨g3, Q - 1, none⟩ (bv (b0 ^^^ T.turn))).drew = z at *
   have y0 := blk_cell HTZ.out 0
   have y1 := blk_cell HTZ.out 1
   have e0 := blk_soft HTZ.out 0
   have e1 := blk_soft HTZ.out 1
   have ylt := lt_of_block HTZ.out
   simp at y0 y1
   have hs0 : wrap64 ((f.b.length : Int) - (f.s : Int) - (K : Int)) = (f.b.length : Int) - (f.s : Int) - (K : Int) := by unfold wrap64; omega
   go_wp2
   go_ret
   have hset : Keeps (fun k => k = t) z (z.setCell ⟨t, 1, none⟩ (.int .i64 (Q : Int))) := keeps_set _
   have hcl : (cutF f T).b.length = Q := by rw [cutF_len f T hs, ← HK.out]; exact HQ.out.symm
   have hcs : (cutF f T).s = Q := by show f.s + keepF f T = Q; rw [← HK.out]; exact HQ.out.symm
   have hcb : (cutF f T).b = L2.set (Q - 1) (b0 ^^^ T.turn) := by
    unfold cutF
    dsimp only
    rw [← HK.out, if_pos (by omega), ← HQ.out, ← HL2.out]
    have e := HB0.out
    rw [← HLN.out] at e ⊢
    exact turnB_set e _
   have hval : (f.b.length : Int) - (f.s : Int) - (K : Int) = (f.b.length : Int) - ((cutF f T).b.length : Int) := by rw [hcl]; have := HQ.out; omega
   refine ⟨congrArg (fun i => Ending.returned (.int .i64 i)) hval, .slice (some ⟨g3, 0, none⟩) Q vc2, ?_, ?_, HNY.out, (HKY.out.trans HYK.out (fun k hk e => ?_)).trans hset (fun k _ e => .inl e)⟩
   ·rw [hcs]; exact trk_set HTZ.out Q
   ·rw [hcb, hg4]
    exact HRZ.out.keep hset (fun k hk e => by subst e; exact hg3t (by cases hk; rfl))
   ·rcases HNY.out with h | h
    ·rw [hg4] at h; exact .inr (by rw [← h, e])
    ·have := h g3 hg4; omega
  ·have hd2 : decide ((0 : Int) < (K : Int)) = false := decide_eq_false h2
   go_enter Try.func50, Try.ntmps50
   unfold bv
   go_wp2
   go_quiet (fail)
   have hkx : Keeps (fun _ => False) w ((w.alloc (.cells #[.int .i64 T.file, .int .i64 T.keep, .int .u8 T.turn.toNat] 61)).drewN nq) := HKB.out.then (keeps_drewN _ _ _)
   have hbox : ((w.alloc (.cells #[.int .i64 T.file, .int .i64 T.keep, .int .u8 T.turn.toNat] 61)).drewN nq).heap[w.heap.size]? = some (.cells #[.int .i64 T.file, .int .i64 T.keep, .int .u8 T.turn.toNat] 61 (0, 0)) := HBOX.out
   generalize (w.alloc (.cells #[.int .i64 T.file, .int .i64 T.keep, .int .u8 T.turn.toNat] 61)).drewN nq = x at *
   obtain ⟨B, hB⟩ : ∃ B, B = w.heap.size := ⟨_, rfl⟩
   rw [← hB] at hbox ⊢
   have HBE := Lib.hid hB
   clear hB
   replace t0 := hkx.cell (b := t) (o := 0) (fun h => h) t0
   replace t1 := hkx.cell (b := t) (o := 1) (fun h => h) t1
   have hrx := HR.out.keep hkx (fun _ _ h => h)
   have htx : TrkAt x t rv f.s := (hkx.block t hlt (fun h => h)).trans HT.out
   have HLT := Lib.hid hlt
   replace f0 := blk_soft htx 0
   replace f1 := blk_soft htx 1
   replace hlt := lt_of_block htx
   have b1 := blk_cell hbox 1
   have b2 := blk_cell hbox 2
   have hlB := lt_of_block hbox
   simp at b1 b2
   have HBX := Lib.hid hbox
   have HRX := Lib.hid hrx
   have HTX := Lib.hid htx
   have HKX := Lib.hid hkx
   have hQl : Q = f.b.length := by have := HQ.out; omega
   have HTY := HTX
   have hsl2 := HV.out
   obtain ⟨va2, hva2⟩ : ∃ va2, va2 = va := ⟨_, rfl⟩
   obtain ⟨vc2, hvc2⟩ : ∃ vc2, vc2 = vc := ⟨_, rfl⟩
   subst hva2 hvc2
   obtain ⟨L2, hL2⟩ : ∃ L2, L2 = f.b := ⟨_, rfl⟩
   have HL2 : Hid (L2 = f.b.take Q) := by show _ = _; rw [hL2, hQl, List.take_length]
   have HLN : Hid (L2.length = Q) := by show _ = _; rw [hL2, hQl]
   have HRY : Hid (Row x (Value.slice va2 Q vc2).ownBlock (.slice va2 Q vc2) L2) := by show Row _ _ _ _; rw [hL2, hQl, ← hsl2]; exact HRX.out
   have HTY : Hid (TrkAt x t (.slice va2 Q vc2) f.s) := by show TrkAt _ _ _ _; rw [hQl, ← hsl2]; exact HTX.out
   have HBY := HBX
   have HKY := Lib.hid (hkx.mono (T := fun k => k = t ∨ rv.ownBlock = some k) (fun _ _ h => h.elim))
   have HNY : Hid ((Value.slice va2 Q vc2).ownBlock = rv.ownBlock ∨ New w (Value.slice va2 Q vc2).ownBlock) := by
    show _ ∨ _
    exact .inl (by rw [hsl2, hQl])
   clear hkx hbox hrx htx HKB HBOX hsl2 hL2 f0 f1 hlt b2 HV t0 t1 hQl
   generalize x = y at *
   have hQ4 : Q ≤ 4194304 := by have := HQ.out; omega
   have y0 := blk_cell HTY.out 0
   have y1 := blk_cell HTY.out 1
   have e0 := blk_soft HTY.out 0
   have e1 := blk_soft HTY.out 1
   have ylt := lt_of_block HTY.out
   simp at y0 y1
   have hK0 : K = 0 := by omega
   subst hK0
   have hs0 : wrap64 ((f.b.length : Int) - (f.s : Int) - ((0 : Nat) : Int)) = (f.b.length : Int) - (f.s : Int) := by unfold wrap64; omega
   go_wp2
   go_ret
   have hset : Keeps (fun k => k = t) y (y.setCell ⟨t, 1, none⟩ (.int .i64 (Q : Int))) := keeps_set _
   have hk0 : keepF f T = 0 := HK.out.symm
   have hQs : Q = f.s := by have := HQ.out; omega
   have hcl : (cutF f T).b.length = Q := by rw [cutF_len f T hs, hk0, hQs]; rfl
   have hcs : (cutF f T).s = Q := by show f.s + keepF f T = Q; rw [hk0, hQs]; rfl
   have hcb : (cutF f T).b = L2 := by
    unfold cutF
    dsimp only
    rw [hk0, if_neg (by omega), HL2.out, hQs]
   have hval : (f.b.length : Int) - (f.s : Int) = (f.b.length : Int) - ((cutF f T).b.length : Int) := by rw [hcl, hQs]
   refine ⟨congrArg (fun i => Ending.returned (.int .i64 i)) hval, .slice va2 Q vc2, ?_, ?_, HNY.out, HKY.out.trans hset (fun k _ e => .inl e)⟩
   ·rw [hcs]; exact trk_set HTY.out Q
   ·rw [hcb]
    exact HRY.out.keep hset (fun k hk e => by subst e; exact row_ne HRY.out HTY.out ty_ne2 hk)
end SZ
end Go.Proofs.Ytddbmibfebhmjaa

namespace Go.Proofs.Ytddbmibfebhmjaa
open S2
namespace SZ
open Go.RowKit Go.Sort Go.Shelf
attribute [local go_sem] Oper.semAt_some
def tlV (t : Tl) : Value := .agg #[.int .i64 t.file, .int .i64 t.keep, bv t.turn]
def TlAt (w : World) (T : Nat → Prop) (v : Value) (l : List Tl) : Prop :=
 (∀ t ∈ l, (Lit.int .i64 t.file).wf = true ∧ (Lit.int .i64 t.keep).wf = true) ∧ ∃ a cap, v = .slice a l.length cap ∧ (l ≠ [] → ∃ g o, a = some ⟨g, o, none⟩ ∧ T g ∧ g < w.heap.size ∧ ∀ (i : Nat) t, l[i]? = some t → w.cell? ⟨g, o + i * 3, none⟩ = some (.int .i64 t.file) ∧ w.cell? ⟨g, o + i * 3 + 1, none⟩ = some (.int .i64 t.keep) ∧ w.cell? ⟨g, o + i * 3 + 2, none⟩ = some (bv t.turn))
theorem TlAt.keep {S T : Nat → Prop} {w w' : World} {v : Value} {l : List Tl} (h : TlAt w T v l) (hk : Keeps S w w') (hT : ∀ k, T k → ¬ S k) : TlAt w' T v l := by
 obtain ⟨hw, a, cap, hv, hr⟩ := h
 refine ⟨hw, a, cap, hv, fun hne => ?_⟩
 obtain ⟨g, o, ha, hg, hgq, hc⟩ := hr hne
 exact ⟨g, o, ha, hg, Nat.lt_of_lt_of_le hgq hk.size, fun i t ht => ⟨hk.cell (hT g hg) (hc i t ht).1, hk.cell (hT g hg) (hc i t ht).2.1, hk.cell (hT g hg) (hc i t ht).2.2⟩⟩
theorem TlAt.form {T : Nat → Prop} {w : World} {v : Value} {l : List Tl} (h : TlAt w T v l) : ∃ a cap, v = .slice a l.length cap := by
 obtain ⟨_, a, cap, hv, _⟩ := h
 exact ⟨a, cap, hv⟩
theorem TlAt.at {T : Nat → Prop} {w : World} {a : Option Addr} {n cap : Nat} {l : List Tl} (h : TlAt w T (.slice a n cap) l) {i : Nat} {t : Tl} (ht : l[i]? = some t) :
  ∃ g o, a = some ⟨g, o, none⟩ ∧ T g ∧ g < w.heap.size ∧ w.cell? ⟨g, o + i * 3, none⟩ = some (.int .i64 t.file) ∧ w.cell? ⟨g, o + i * 3 + 1, none⟩ = some (.int .i64 t.keep) ∧ w.cell? ⟨g, o + i * 3 + 2, none⟩ = some (bv t.turn) := by
 obtain ⟨_, a', cap', hv, hr⟩ := h
 simp only [Value.slice.injEq] at hv
 obtain ⟨rfl, rfl, rfl⟩ := hv
 obtain ⟨g, o, ha, hg, hgq, hc⟩ := hr (by rintro rfl; simp at ht)
 exact ⟨g, o, ha, hg, hgq, hc i t ht⟩
def okT (t : Tl) : Tl := ⟨wrap64 t.file, t.keep, t.turn⟩
theorem okT_wf (t : Tl) : (Lit.int .i64 (okT t).file).wf = true := wrap64_wf _
theorem okT_of {t : Tl} (h : (Lit.int .i64 t.file).wf = true) : okT t = t := by
 have := wf_bounds h
 have e : wrap64 t.file = t.file := by unfold wrap64; omega
 unfold okT
 rw [e]
def backL (T : List Tl) : Nat → List (Nat × Tl)
 | 0 => []
 | k + 1 => (k, T.getD k ⟨0, 0, 0⟩) :: backL T k
theorem backL_snd (T : List Tl) (k : Nat) (hk : k ≤ T.length) : ((backL T k).map Prod.snd).reverse = T.take k := by
 induction k with
 | zero => rfl
 | succ k ih =>
  have hlt : k < T.length := by omega
  simp only [backL, List.map_cons, List.reverse_cons]
  rw [ih (by omega), List.take_add_one, List.getElem?_eq_getElem hlt]
  congr 1
  simp [List.getD, hlt]
def KpB (n0 bm : Nat) (A B : World) : Prop := ∀ k, k < n0 → k ≠ bm → B.heap[k]? = A.heap[k]?
theorem kpB_t {n0 bm : Nat} {A B C : World} (h : KpB n0 bm A B) (k : KpB n0 bm B C) : KpB n0 bm A C := fun j hj hb => (k j hj hb).trans (h j hj hb)
theorem kpB_b {n0 bm : Nat} {w : World} (hn : n0 ≤ w.heap.size) (W : World) (l : Nat) (o o' : Obj) (hl : w.heap.size ≤ l) (_ : W.heap[l]? = some o) (_ : o.isCells = false) (_ : o.isWalk = false) : KpB n0 bm W (W.putObj l o') :=
 fun k hk _ => World.putObj_heap_other (fun e => by omega)
theorem kpB_cell {n0 bm : Nat} {A B : World} (h : KpB n0 bm A B) {b o : Nat} {v : Value} (hb : b < n0) (hm : b ≠ bm) (hc : A.cell? ⟨b, o, none⟩ = some v) : B.cell? ⟨b, o, none⟩ = some v := by
 have := h b hb hm
 simp only [World.cell?, this] at *
 exact hc
theorem backward_stops (n : Nat) (hn : 1 ≤ n) (w0 w : World) (Bl bm : Nat) (T : Nat → Prop) (v : Value) (l : List Tl) (hlen : l.length ≤ 1000000) (hl : TlAt w0 T v l) (hBl : S3.Box1 w0 Bl 33 v) (hbm : Bl ≠ bm) (hT : ∀ k, T k → k ≠ bm) (hbel : Below w0.heap.size w0 w) :
  SeqStopsK Fence.wide n Try.prog 76 #[.pointer (some ⟨Bl, 0, none⟩)] (fun x : Nat × Tl => #[.int .i64 x.1, tlV (okT x.2)]) (KpB w0.heap.size bm) (fun xs => xs = backL l l.length) (fun _ => True) l.length w := by
 intro y J Jx W hW hJ hJx hY h0
 obtain ⟨va, vc, rfl⟩ := hl.form
 have HL := Lib.hid hl
 have HB := Lib.hid hBl
 have HY := Lib.hid hY
 have HT := Lib.hid hT
 have HW := Lib.hid (hbel.trans (hW.mono hbel.size))
 clear hl hBl hY hJ hJx hW hbel hT
 refine callsIn_of_wp Try.func76 rfl trivial ?_ rfl
 simp only [Try.ntmps76, List.size_toArray, List.length_cons, List.length_nil, Nat.reduceAdd, Nat.reduceSub, Array.replicate_succ, Array.replicate_zero, List.push_toArray, List.append_toArray, List.nil_append, List.cons_append]
 have hc0 := S3.cell_in HW.out HB.out.lt HB.out.c
 have hbl := Nat.lt_of_lt_of_le HB.out.lt HW.out.size
 have hw1 : wrap64 ((l.length : Int) - 1) = (l.length : Int) - 1 := by unfold wrap64; omega
 gi_wp2
 gi_loopw [3] (fun i wr => ∃ (k : Nat) (pre : List (Nat × Tl)), k ≤ l.length ∧ i = .int .i64 ((k : Int) - 1) ∧ pre ++ backL l k = backL l l.length ∧ pre.length + k = l.length ∧ J pre wr ∧ KpB w0.heap.size bm W wr) (fun i _ => (RowKit.intOf i + 1).toNat)
 case atStart => exact ⟨l.length, [], Nat.le_refl _, rfl, rfl, by simp, h0, fun _ _ _ => rfl⟩
 case round =>
  obtain ⟨k, pre, hk, rfl, happ, hpl, hJs, hkp⟩ := hrel
  cases k with
  | zero =>
   gi_wp2
   go_end0
   exact ⟨⟨_, rfl⟩, .inl ⟨pre, by simpa [backL] using happ, hJs⟩⟩
  | succ k =>
   have hlt : k < l.length := by omega
   obtain ⟨x, hx⟩ := get_lt14 hlt
   have hok : okT x = x := okT_of (HL.out.1 x (List.mem_of_getElem? hx)).1
   obtain ⟨g, o, rfl, hTg, hg, d0, d1, d2⟩ := HL.out.at hx
   have hgx := HT.out g hTg
   have c0 := kpB_cell hkp hg hgx (S3.cell_in HW.out hg d0)
   have c1 := kpB_cell hkp hg hgx (S3.cell_in HW.out hg d1)
   have c2 := kpB_cell hkp hg hgx (S3.cell_in HW.out hg d2)
   have cb := kpB_cell hkp HB.out.lt hbm hc0
   have hblr := World.block_lt_of_cell? _ _ cb
   have hi : ((k + 1 : Nat) : Int) - 1 = (k : Int) := by omega
   rw [hi]
   have hk0 : (0 : Int) ≤ (k : Int) := by omega
   have hk1 : (k : Int) < (l.length : Int) := by omega
   have hxd : l.getD k ⟨0, 0, 0⟩ = x := by simp [List.getD, hx]
   have hcons : backL l (k + 1) = (k, x) :: backL l k := by show (k, l.getD k ⟨0, 0, 0⟩) :: backL l k = _; rw [hxd]
   obtain ⟨fn, tmps, assign, body, hy, hR⟩ := HY.out pre (k, x) wr hJs (by omega)
   have hw2 : wrap64 ((k : Int) - 1) = (k : Int) - 1 := by unfold wrap64; omega
   rw [hcons] at happ
   have HAP := Lib.hid happ
   have HKP := Lib.hid hkp
   have HPL := Lib.hid hpl
   clear hx d0 d1 d2 hxd hcons happ hkp hi hpl
   rw [show okT ((k, x) : Nat × Tl).2 = x from hok] at hy
   clear hok
   unfold tlV at hy
   gi_wp2
   refine hR.mono ?_
   rintro e W3 (⟨rfl, hJ3, hk3⟩ | ⟨rfl, hJx3⟩)
   ·gi_wp2
    go_roundw
    case rel => exact ⟨k, pre ++ [(k, x)], by omega, rfl, by rw [List.append_assoc]; exact HAP.out, by have := HPL.out; simp; omega, hJ3, kpB_t HKP.out hk3⟩
    case measure => simp [RowKit.intOf]
   ·gi_wp2
    refine bodyPost_ret (results_none rfl _ _ _) rfl ?_
    exact ⟨⟨_, rfl⟩, .inr ⟨_, trivial, hJx3⟩⟩

attribute [local go_sem] Oper.semAt_some
def tlR (v : Value) : Option (DataW Value × List MemPlace) := some (.held v, [])
def zTl : Tl := ⟨0, 0, 0⟩
def zF : DataW Value := .held (tlV zTl)
def RepF (M : DataW Value) (T : List Tl) : Prop := Maps.IsMap M ∧ ∀ s, M.atKey (kI s) zF = .held (tlV (tailF T s))
theorem repF_nil : RepF (.map []) [] := ⟨Maps.isMap_empty, fun s => rfl⟩
theorem repF_put {M : DataW Value} {T : List Tl} (h : RepF M T) (t : Tl) : RepF (M.put (kI t.file) (.held (tlV t))) (t :: T) := by
 refine ⟨h.1.put _ _, fun s => ?_⟩
 by_cases e : s = t.file
 ·subst e
  rw [Maps.atKey_put_same h.1 (kI_key _)]
  have : tailF (t :: T) t.file = t := by simp [tailF]
  rw [this]
 ·rw [Maps.atKey_put_other (kI_ne e), h.2 s]
  have : tailF (t :: T) s = tailF T s := by
   unfold tailF
   rw [List.find?_cons]
   have h2 : (t.file == s) = false := by simpa using fun h => e h.symm
   rw [h2]
  rw [this]
def MapF (w : World) (m n : Nat) (M : DataW Value) : Prop := w.ownsMap Try.prog 3 tlR m n M
theorem MapF.lt {w : World} {m n : Nat} {M : DataW Value} (h : MapF w m n M) : m < w.heap.size := World.ownsMap.lt h
theorem MapF.of {w w' : World} {m n : Nat} {M : DataW Value} (h : MapF w m n M) (e : w'.heap[m]? = w.heap[m]?) : MapF w' m n M := by
 obtain ⟨es, clock, hh, r⟩ := h
 exact ⟨es, clock, e.trans hh, r⟩
theorem zeroF (w : World) : (zeroValue 61).run Try.prog w = .ok (tlV zTl) w := by kernel_rfl
theorem mapF_look {w : World} {m n : Nat} {M : DataW Value} {T : List Tl} (h : MapF w m n M) (hr : RepF M T) {s : Int} (hs : (Lit.int .i64 s).wf = true) :
  (Instr.lookup 84 (.map (some m)) (.int .i64 s) false).run Try.prog w = .ok (tlV (tailF T s)) w := by
 obtain ⟨v, ps, hrun, hv⟩ := World.ownsMap.lookup (t := 84) (e := 61) h lawZ Try.underlying84 (zeroF w) (zd := zF) (zp := []) rfl (kl := kI s) (Maps.keyOf_int_mk Try.underlying3 hs)
 have e : M.atKey (kI s) zF = .held v := by
  unfold tlR at hv
  simp only [Option.some.injEq, Prod.mk.injEq] at hv
  exact hv.1.symm
 rw [hrun]
 rw [hr.2 s] at e
 cases e
 rfl
theorem mapF_upd {w : World} {m n : Nat} {M : DataW Value} (h : MapF w m n M) {t : Tl} (hs : (Lit.int .i64 t.file).wf = true) (hn : n < 4000000) :
  ∃ w', (Instr.mapUpdate 84 (.map (some m)) (.int .i64 t.file) (tlV t)).run Try.prog w = .ok () w' ∧ MapF w' m (n + 1) (M.put (kI t.file) (.held (tlV t))) ∧ w.grownBy w' (some m) :=
 World.ownsMap.update (t := 84) (e := 61) (d := .held (tlV t)) (ps := []) (val := tlV t) h lawZ Try.underlying84 (by unfold maxLen; omega) (Maps.keyOf_int_mk Try.underlying3 hs) rfl
theorem backward_any (v : Value) (a : Option Addr) (l c : Nat) (hv : v = .slice a l c) (w : World) : Calls Try.prog 66 #[v] w fun e w' => e = .returned (.func (.func 76) #[] #[.pointer (some ⟨w.heap.size, 0, none⟩)]) ∧ w' = w.alloc (.cells #[v] 33) := by
 subst hv
 go_enter Try.func66, Try.ntmps66
 go_wp2
 go_ret
 exact ⟨rfl, rfl⟩
theorem eg_back : ∀ args w, (callFunc 76 args).run Try.prog w = .ok (.enter 76 args) w := Go.Proofs.enters_of Try.func76 (by kernel_rfl) rfl
def FirstsR (w : World) (T : List Tl) (e : Ending) (w' : World) : Prop := ∃ bm n M, e = .returned (.map (some bm)) ∧ w.heap.size ≤ bm ∧ MapF w' bm n M ∧ RepF M T ∧ Below w.heap.size w w'
theorem firsts_any (w : World) (T : Nat → Prop) (v : Value) (l : List Tl) (hlen : l.length ≤ 1000000) (hl : TlAt w T v l) (hT : ∀ k, T k → k < w.heap.size) : Calls Try.prog 49 #[v] w (FirstsR w l) := by
 refine (callsIn_wide (n := 9)).1 ?_
 have hmm := @run_makeMap Try.prog
 obtain ⟨va, vc, hva⟩ := hl.form
 subst hva
 have HL := Lib.hid hl
 have HT := Lib.hid hT
 clear hl hT
 refine callsIn_of_wp_marks Try.func49 rfl trivial ?_ rfl
 simp only [Try.ntmps49, List.size_toArray, List.length_cons, List.length_nil, Nat.reduceAdd, Nat.reduceSub, Array.replicate_succ, Array.replicate_zero, List.push_toArray, List.append_toArray, List.nil_append, List.cons_append]
 gi_wp2
 refine ⟨trivial, ?_⟩
 refine (callsIn_wide.2 (backward_any _ _ _ _ rfl _)).mono ?_
 rintro r w' ⟨rfl, rfl⟩
 gi_wp2
 have hX0 : Keeps (fun _ => False) w (w.alloc (.map #[] 0)) := Keeps.alloc _ _ _
 have hX1 : Keeps (fun _ => False) (w.alloc (.map #[] 0)) ((w.alloc (.map #[] 0)).alloc (.cells #[.map (some w.heap.size)] 84)) := Keeps.alloc _ _ _
 have hX2 : Keeps (fun _ => False) ((w.alloc (.map #[] 0)).alloc (.cells #[.map (some w.heap.size)] 84)) (((w.alloc (.map #[] 0)).alloc (.cells #[.map (some w.heap.size)] 84)).alloc (.cells #[.slice va l.length vc] 33)) := Keeps.alloc _ _ _
 have hz0 : (w.alloc (.map #[] 0)).heap.size = w.heap.size + 1 := World.size_alloc _ _
 have hz1 : ((w.alloc (.map #[] 0)).alloc (.cells #[.map (some w.heap.size)] 84)).heap.size = w.heap.size + 2 := by rw [World.size_alloc, hz0]
 have hz2 : (((w.alloc (.map #[] 0)).alloc (.cells #[.map (some w.heap.size)] 84)).alloc (.cells #[.slice va l.length vc] 33)).heap.size = w.heap.size + 3 := by rw [World.size_alloc, hz1]
 have hm0 : MapF (w.alloc (.map #[] 0)) w.heap.size 0 (.map []) := World.ownsMap_made w _ _ _
 have hmX : MapF (((w.alloc (.map #[] 0)).alloc (.cells #[.map (some w.heap.size)] 84)).alloc (.cells #[.slice va l.length vc] 33)) w.heap.size 0 (.map []) := hm0.of (((hX1.then hX2).block _ hm0.lt (fun h => h)))
 have hb1 := heap_alloc_new (w.alloc (.map #[] 0)) (.cells #[.map (some w.heap.size)] 84)
 have hb2 := heap_alloc_new ((w.alloc (.map #[] 0)).alloc (.cells #[.map (some w.heap.size)] 84)) (.cells #[.slice va l.length vc] 33)
 rw [hz0] at hb1
 rw [hz1] at hb2
 have hb1X := (hX2.block (w.heap.size + 1) (by omega) (fun h => h)).trans hb1
 have hlX := ((HL.out.keep hX0 (fun _ _ h => h)).keep hX1 (fun _ _ h => h)).keep hX2 (fun _ _ h => h)
 have hbel : Below w.heap.size w (((w.alloc (.map #[] 0)).alloc (.cells #[.map (some w.heap.size)] 84)).alloc (.cells #[.slice va l.length vc] 33)) := ((hX0.then hX1).then hX2).below (Nat.le_refl _) (fun _ _ h => h)
 clear hX0 hX1 hX2 hb1 hm0 hz0 hz1 hmm
 rw [show w.heap.size + 1 + 1 = w.heap.size + 2 from rfl]
 generalize (((w.alloc (.map #[] 0)).alloc (.cells #[.map (some w.heap.size)] 84)).alloc (.cells #[.slice va l.length vc] 33)) = X at *
 refine wpIn_rangeFunc_ownH rfl (by omega) (gf := 76) (lb := #[.pointer (some ⟨w.heap.size + 2, 0, none⟩)]) rfl trivial eg_back
  (backward_stops 8 (by omega) X X (w.heap.size + 2) w.heap.size T (.slice va l.length vc) l hlen hlX hb2 (by omega) (fun k hk e => by have := HT.out k hk; omega) (Below.refl _ _))
  kpB_t (kpB_b (Nat.le_refl _)) (Below.refl _ _) (fun _ => rfl)
  (fun pre W => (∃ D n, MapF W w.heap.size n D ∧ n ≤ pre.length ∧ RepF D ((pre.map fun x => okT x.2).reverse)) ∧ S3.Box1 W (w.heap.size + 1) 84 (.map (some w.heap.size)) ∧ Below w.heap.size w W ∧ X.heap.size ≤ W.heap.size)
  (fun _ _ _ => False)
  ?hI (fun _ _ _ _ _ hs _ _ => hs)
  ⟨⟨_, 0, hmX, Nat.le_refl _, repF_nil⟩, hb1X, hbel, Nat.le_refl _⟩
  (fun x a' W => ∃ Bx, X.heap.size ≤ Bx ∧ W.heap[Bx]? = some (.cells #[.int .i64 (okT x.2).file, .int .i64 (okT x.2).keep, bv (okT x.2).turn] 61 (0, 0)) ∧ a' = { tmps := #[.slice va l.length vc, undef, .map none, .pointer (some ⟨w.heap.size + 1, 0, none⟩), undef, .pointer (some ⟨Bx, 0, none⟩), .map (some w.heap.size), .slice va l.length vc, .func (.func 76) #[] #[.pointer (some ⟨w.heap.size + 2, 0, none⟩)], .int .i64 x.1, .agg #[.int .i64 (okT x.2).file, .int .i64 (okT x.2).keep, .int .u8 (okT x.2).turn.toNat], undef, undef, undef, undef, undef], defers := [] })
  ?hAx ?assign ?body ?done ?stop
 case hI =>
  rintro pre A B row ⟨⟨D, n, h1, h2, h3⟩, h4, h5, h6⟩ hg hr
  have hne : ∀ k, k < w.heap.size + 3 → some k ≠ row := fun k hk e => by have := (hr k e.symm).1; omega
  exact ⟨⟨D, n, h1.of (hg.block _ h1.lt (hne _ (by omega))), h2, h3⟩, (hg.block _ h4.lt (hne _ (by omega))).trans h4, h5.grown hg (by have := h4.lt; omega) (fun k e => by have := (hr k e).1; omega), Nat.le_trans h6 hg.size⟩
 case hAx =>
  rintro x a' s A B row ⟨Bx, h1, h2, h3⟩ hg hr
  refine ⟨Bx, h1, (hg.block _ (lt_of_block h2) (fun e => ?_)).trans h2, h3⟩
  obtain ⟨_, o, ho, hc⟩ := hr Bx e.symm
  rw [h2] at ho
  cases ho
  cases hc
 case assign =>
  rintro y pre x W K hi hK
  unfold tlV bv
  gi_wp2
  obtain ⟨⟨D, n, h1, h2, h3⟩, h4, h5, h6⟩ := hi
  have hka : Keeps (fun _ => False) W (W.alloc (.cells #[.int .i64 (okT x.2).file, .int .i64 (okT x.2).keep, .int .u8 (okT x.2).turn.toNat] 61)) := Keeps.alloc _ _ _
  exact hK _ _ ((KeepsOthers.alloc W _).from _) (fun k hk _ => hka.block k (Nat.lt_of_lt_of_le hk h6) (fun h => h)) ⟨⟨D, n, h1.of (hka.block _ h1.lt (fun h => h)), h2, h3⟩, (hka.block _ h4.lt (fun h => h)).trans h4, h5.alloc (by omega) _, Nat.le_trans h6 hka.size⟩ ⟨W.heap.size, h6, heap_alloc_new W _, rfl⟩
 case body =>
  rintro y pre x a' W hl hr ⟨⟨D, n, h1, h2, h3⟩, h4, h5, h6⟩ ⟨Bx, hBx, bX, rfl⟩ hlt
  have hm := h4.c
  have hml := h4.lt
  have x0 := blk_cell bX 0
  have x1 := blk_cell bX 1
  have x2 := blk_cell bX 2
  have hxl := lt_of_block bX
  unfold bv at x2
  simp at x0 x1 x2
  obtain ⟨w2, hup, hm2, hg2⟩ := mapF_upd h1 (t := okT x.2) (okT_wf _) (by omega)
  unfold tlV bv at hup
  have HM2 := Lib.hid hm2
  have HG2 := Lib.hid hg2
  have H3 := Lib.hid h3
  have H4 := Lib.hid h4
  have H5 := Lib.hid h5
  clear hm2 hg2 h3 h4 h5 bX hl hr
  gi_wp2
  have hne : ∀ k, k ≠ w.heap.size → some k ≠ some w.heap.size := fun k h e => h (by simpa using e)
  refine ⟨KeepsFrom.of_grownBy HG2.out (fun j e => by cases e; omega), fun k hk hkm => HG2.out.block k (Nat.lt_of_lt_of_le hk h6) (hne k hkm), ⟨_, n + 1, HM2.out, by simp; omega, ?_⟩, (HG2.out.block _ H4.out.lt (hne _ (by omega))).trans H4.out, H5.out.grown HG2.out (by omega) (fun k e => by cases e; exact Nat.le_refl _), Nat.le_trans h6 HG2.out.size⟩
  rw [List.map_append, List.reverse_append]
  exact repF_put H3.out _
 case done =>
  rintro D ys W hD rfl ⟨⟨M, n, h1, h2, h3⟩, h4, h5, h6⟩ hK
  have hm := h4.c
  have hml := h4.lt
  have HR : Hid (RepF M l) := by
   show RepF M l
   have e : ((backL l l.length).map fun x => okT x.2).reverse = l := by
    have e1 := backL_snd l l.length (Nat.le_refl _)
    rw [List.take_length] at e1
    have e2 : (backL l l.length).map (fun x => okT x.2) = ((backL l l.length).map Prod.snd).map okT := by rw [List.map_map]; rfl
    rw [e2, ← List.map_reverse, e1]
    conv => rhs; rw [← List.map_id l]
    exact List.map_congr_left fun t ht => okT_of (HL.out.1 t ht).1
   rwa [e] at h3
  clear h3
  gi_wp2
  refine ⟨by simp, .inl ⟨_, _, rfl, run_takeDeferred hK, ?_⟩⟩
  have hp : (W.putObj D (.deferred none)).heap[w.heap.size]? = W.heap[w.heap.size]? := World.putObj_heap_other (fun e => by omega)
  exact ⟨_, results_tmp rfl _ _ _, w.heap.size, n, M, rfl, Nat.le_refl _, h1.of hp, HR.out, h5.trans (belowK_b (w := w) (Nat.le_refl _) W D _ _ (by omega) hK rfl rfl)⟩
 case stop =>
  rintro D c pre W _ _ h _
  exact h.elim
end SZ
end Go.Proofs.Ytddbmibfebhmjaa

namespace Go.Proofs.Ytddbmibfebhmjaa
open S2
namespace SZ
open Go.RowKit
def mixL (l : List Fil) (left : Lit → Bool) (T : List Tl) : List Fil := l.map fun f => if left (kI f.n) then f else cutF f (tailF T f.n)
theorem cutF_n (f : Fil) (t : Tl) : (cutF f t).n = f.n := rfl
theorem mixL_ris {l : List Fil} (h : RisF l) (left : Lit → Bool) (T : List Tl) : RisF (mixL l left T) := by
 unfold RisF mixL
 rw [List.pairwise_map]
 refine h.imp fun {a b} hab => ?_
 split <;> split <;> exact hab
theorem mixL_mem {l : List Fil} (left : Lit → Bool) (T : List Tl) {f : Fil} (hf : f ∈ l) (hl : left (kI f.n) = true) : f ∈ mixL l left T := List.mem_map.2 ⟨f, hf, by rw [if_pos hl]⟩
theorem putF_map {l : List Fil} (h : RisF l) {f g : Fil} (hf : f ∈ l) (hn : g.n = f.n) : putF l g = l.map fun x => if x.n = g.n then g else x := by
 induction l with
 | nil => cases hf
 | cons x l ih =>
  unfold putF
  rw [List.map_cons]
  rcases List.mem_cons.1 hf with e | hf
  ·subst e
   rw [if_neg (by omega), if_pos hn, if_pos hn.symm]
   congr 1
   symm
   conv => rhs; rw [← List.map_id l]
   refine List.map_congr_left fun y hy => ?_
   have := h.head y hy
   rw [if_neg (by omega)]
   rfl
  ·have := h.head f hf
   rw [if_neg (by omega), if_neg (by omega), if_neg (by omega), ih h.tail hf]
theorem mixL_step {l : List Fil} (h : RisF l) (left left' : Lit → Bool) (T : List Tl) {f : Fil} (hf : f ∈ l) (hl : left (kI f.n) = true) (hl' : ∀ s, left' (kI s) = (left (kI s) && !decide (s = f.n))) : putF (mixL l left T) (cutF f (tailF T f.n)) = mixL l left' T := by
 rw [putF_map (g := cutF f (tailF T f.n)) (mixL_ris h left T) (mixL_mem left T hf hl) rfl]
 unfold mixL
 rw [List.map_map]
 refine List.map_congr_left fun x hx => ?_
 show (if (if left (kI x.n) = true then x else cutF x (tailF T x.n)).n = (cutF f (tailF T f.n)).n then cutF f (tailF T f.n) else (if left (kI x.n) = true then x else cutF x (tailF T x.n))) = _
 have hxn : (if left (kI x.n) = true then x else cutF x (tailF T x.n)).n = x.n := by split <;> rfl
 rw [hxn, hl', cutF_n]
 by_cases e : x.n = f.n
 ·have : x = f := h.eq hx hf e
  subst this
  simp
 ·rw [if_neg e]
  simp [e]
theorem mixL_start (l : List Fil) (left : Lit → Bool) (T : List Tl) (h : ∀ f ∈ l, left (kI f.n) = true) : mixL l left T = l := by
 unfold mixL
 conv => rhs; rw [← List.map_id l]
 exact List.map_congr_left fun f hf => by rw [if_pos (h f hf)]; rfl
theorem mixL_end (l : List Fil) (left : Lit → Bool) (T : List Tl) (h : ∀ kl, left kl = false) : mixL l left T = l.map fun f => cutF f (tailF T f.n) := by
 unfold mixL
 exact List.map_congr_left fun f hf => by rw [h]; rfl
theorem tailF_wf {T : List Tl} (h : ∀ t ∈ T, (Lit.int .i64 t.file).wf = true ∧ (Lit.int .i64 t.keep).wf = true) (n : Int) : (Lit.int .i64 (tailF T n).keep).wf = true := by
 unfold tailF
 cases e : T.find? (fun t => t.file == n) with
 | none => decide
 | some t => exact (h t (List.mem_of_find?_eq_some e)).2
theorem ranges_of {w w' : World} {m r n cnt : Nat} {M : DataW Value} {left : Lit → Bool} (h : w.ranges Try.prog 3 ptrV m r n M left cnt) (h1 : w'.heap[m]? = w.heap[m]?) (h2 : w'.heap[r]? = w.heap[r]?) : w'.ranges Try.prog 3 ptrV m r n M left cnt := by
 obtain ⟨es, clock, since, seen, c0, hb, F, hs, hD, hr, rest⟩ := h
 exact ⟨es, clock, since, seen, c0, h1.trans hb, F, hs, hD, h2.trans hr, rest⟩
theorem crash_any {w : World} {b : Nat} {S T : Nat → Prop} {D : Dm} {v : Value} {l : List Tl} (h : PAt w b S D) (hl : TlAt w T v l) (hT : ∀ k, T k → k < w.heap.size) (hlen : l.length ≤ 1000000) :
  Calls Try.prog 22 #[.pointer (some ⟨b, 0, none⟩), v] w fun r w' => r = .returned (.tuple #[]) ∧ Keeps S w w' ∧ PAt w' b (Grow S w w') (crashD D l) := by
 obtain ⟨m, n, lf, M, tb, rv, hp, hcnt⟩ := h
 have hwf := hl.1
 obtain ⟨va, vc, rfl⟩ := hl.form
 have HF := Lib.hid (firsts_any w T (.slice va l.length vc) l hlen hl hT)
 have HP := Lib.hid hp
 have HWF := Lib.hid hwf
 clear hp hl hT hwf
 go_enter Try.func22, Try.ntmps22
 go_wp2_with (first
  | (go_at_call 49; refine HF.out.mono ?_; rintro r w1 ⟨bm, nb, MB, rfl, hbm, hmb, hrb, hb1⟩; have HMB := Lib.hid hmb; have HRB := Lib.hid hrb; have HB1 := Lib.hid hb1; clear hmb hrb hb1; have HP1 := Lib.hid (HP.out.keep (Keeps.ofBelow (S := fun _ => False) HB1.out) (fun _ _ h => h)); have c0 := blk_cell HP1.out.blk 0; have hlb := lt_of_block HP1.out.blk; simp at c0)
  | (at_range; refine wpList_range_own _ rfl _ 71 rfl 3 77 lawZ Try.underlying71 ptrV m n M rfl HP1.out.map ?_; intro w2 hrg hg2 hs2; go_frame))
 have hk2 : Keeps (fun _ => False) w1 w2 := Keeps.grown hg2 (fun k _ e => by cases e)
 obtain ⟨r, hr⟩ : ∃ r, r = w1.heap.size := ⟨_, rfl⟩
 rw [← hr] at hrg ⊢
 have HR := Lib.hid hr
 have HK2 := Lib.hid hk2
 have HP2 := Lib.hid (HP1.out.keep hk2 (fun _ _ h => h))
 have HM2 := Lib.hid (HMB.out.of (hk2.block bm HMB.out.lt (fun h => h)))
 clear hr hk2 hg2 c0 hlb
 go_loopw [5, 6] (fun _ _ wr => ∃ (left : Lit → Bool) (cnt : Nat) (S1 : Nat → Prop) (rv1 : Int → Value), wr.ranges Try.prog 3 ptrV m r n M left cnt ∧ PMem wr b S1 ⟨mixL D.l left l, D.room, D.left, D.off, D.done⟩ m n lf M tb rv1 ∧ (∀ k, S k → S1 k) ∧ (∀ k, S1 k → S k ∨ r < k) ∧ MapF wr bm nb MB ∧ r < wr.heap.size ∧ Keeps S w wr) (fun _ _ wr => wr.rangeLeft m r)
 case atStart =>
  have hd : (⟨mixL D.l (Maps.has M) l, D.room, D.left, D.off, D.done⟩ : Dm) = D := by
   have : mixL D.l (Maps.has M) l = D.l := mixL_start _ _ _ fun f hf => by
    rw [(HP2.out.rep.2 f.n).1]
    obtain ⟨t, ht⟩ := HP2.out.tb_some hf
    rw [ht]
    rfl
   rw [this]
  exact ⟨_, _, S, rv, hrg, by rw [hd]; exact HP2.out, fun k h => h, fun k h => .inl h, HM2.out, by rw [hs2, HR.out]; omega, (Keeps.ofBelow HB1.out).then (HK2.out.mono (fun _ _ h => h.elim))⟩
 case round =>
  obtain ⟨left, cnt, S1, rv1, hrg1, hp1, hS1, hS2, hmb, hrl, hks⟩ := hrel
  go_wp2_with (at_next; refine wpList_next_ranges _ rfl _ rfl 3 lawZ ptrV (fun x : Int => Value.int .i64 x) atP (fun key kl hk => by obtain ⟨x, hx, _⟩ := Maps.keyOf_int_inv Try.underlying3 hk; exact ⟨x, hx⟩) (fun v y hv => by obtain ⟨t, ht, _⟩ := ptrV_inv hv; exact ⟨t, ht⟩) m r n _ _ _ rfl hrg1 ?_ ?_)
  ·intro hc0 hl0
   have hp := hp1
   rw [mixL_end _ _ _ hl0] at hp
   have hlb := lt_of_block hp.blk
   have f2 := blk_soft hp.blk 2
   have f3 := blk_soft hp.blk 3
   have c2 := blk_cell hp.blk 2
   have c3 := blk_cell hp.blk 3
   simp at c2 c3
   have HPE := Lib.hid hp
   have HS1 := Lib.hid hS1
   have HS2 := Lib.hid hS2
   have HKS := Lib.hid hks
   have HRL := Lib.hid hrl
   clear hp hp1 hS1 hS2 hks hrl hrg1 hmb
   go_wp2
   go_end0
   have hsb := HP.out.sb
   have h2 := blk_set (i := 3) HPE.out.blk (.bool false)
   have h3 := blk_set (i := 2) h2 (.int .i64 (-1))
   have hk3 : Keeps (fun k => k = b) wr ((wr.setCell ⟨b, 3, none⟩ (.bool false)).setCell ⟨b, 2, none⟩ (.int .i64 (-1))) := (keeps_set _).then (keeps_set _)
   have hpe := HPE.out.num (lf' := -1) (left' := -1) (off' := false) (done' := D.done) hk3 (by simpa using h3) (fun _ => rfl) (by decide)
   refine ⟨rfl, HKS.out.then (hk3.mono fun k _ e => by rw [e]; exact hsb), m, n, -1, M, tb, rv1, hpe.wide (fun k hk => ?_) (fun k hk => ?_), hcnt⟩
   ·rcases HS2.out k hk with h | h
    ·exact .inl h
    ·refine .inr ⟨by have := HR.out; have := HB1.out.size; omega, hpe.slt k hk⟩
   ·rcases hk with h | h
    ·exact hpe.slt k (HS1.out k h)
    ·exact h.2
  ·intro x t kl yd yp w3 cnt3 hkey hlk hv hat hrg3 hlt3 hg3 hs3 hen
   obtain ⟨x', ex, hkl, hwx⟩ := Maps.keyOf_int_inv Try.underlying3 hkey
   simp only [Value.int.injEq, true_and] at ex
   subst ex
   obtain ⟨t', et, hyd⟩ := ptrV_inv hv
   have htt : t' = t := by unfold atP at et; simpa using et.symm
   subst htt
   have hkl2 : kl = kI x := hkl
   subst hkl2
   have htb : tb x = some t' := by
    cases e : tb x with
    | none =>
     have h0 : Maps.has M (kI x) = false := by rw [(HP.out.rep.2 x).1, e]; rfl
     have h1 := hat zP
     rw [Maps.atKey_of_not_has h0] at h1
     have h2 : yd = .held (atP t') := congrArg Prod.fst hyd
     rw [h2] at h1
     cases h1
    | some t2 =>
     have h1 := hat zP
     rw [(HP.out.rep.2 x).2 t2 e] at h1
     have h2 : yd = .held (atP t') := congrArg Prod.fst hyd
     rw [h2] at h1
     have h3 : t2 = t' := by unfold atP at h1; simpa using h1
     rw [h3]
   clear hv hyd hat hkl et hkey
   have hk3 : Keeps (fun k => k = r) wr w3 := Keeps.grown hg3 (fun k _ e => by simpa using e.symm)
   have hrr := HR.out
   have hb1s := HB1.out.size
   have hnr : ¬ S1 r := fun h => by
    rcases hS2 r h with h | h
    ·have := HP.out.slt r h; omega
    ·omega
   have hbr : bm ≠ r := fun e => by have := HMB.out.lt; omega
   have hp3 := hp1.keep hk3 (fun k hk e => hnr (by rw [← e]; exact hk))
   have hmb3 := hmb.of (hk3.block bm hmb.lt hbr)
   obtain ⟨f, hf, hfn, hfm⟩ : ∃ f ∈ D.l, f.n = x ∧ f ∈ mixL D.l left l := by
    obtain ⟨f1, hf1, hfn⟩ := hp3.tb_mem htb
    obtain ⟨f0, hf0, he⟩ := List.mem_map.1 hf1
    have hn0 : f0.n = x := by rw [← hfn, ← he]; split <;> rfl
    rw [← hn0] at hlk
    exact ⟨f0, hf0, hn0, mixL_mem left l hf0 hlk⟩
   subst hfn
   obtain ⟨htr, hSt⟩ := hp3.trk f hfm t' htb
   obtain ⟨hro, hSr⟩ := hp3.row f hfm
   have hsafe := hp3.good.safe f hfm
   have hblen := hp3.good.blen hfm
   have hcl := cutF_len f (tailF l f.n) hsafe
   have hkl := keepF_le f (tailF l f.n) hsafe
   have hlb := lt_of_block hp3.blk
   have c1 := blk_cell hp3.blk 1
   have f1 := blk_soft hp3.blk 1
   simp at c1
   have hlook := mapF_look (w := w3.drew) (hmb3.of rfl) HRB.out hwx
   have hCUT := cutT_any w3.drew t' (rv1 f.n) f (tailF l f.n) htr (hro.keep (Keeps.drew (fun _ => False) _) (fun _ _ h => h)) hsafe hblen (tailF_wf HWF.out _)
   unfold bv at hCUT
   have hlen' : ((cutF f (tailF l f.n)).b.length : Int) ≤ f.b.length := by rw [hcl]; omega
   obtain ⟨F0, hF0⟩ : ∃ F0, F0 = Dm.free ⟨mixL D.l left l, D.room, D.left, D.off, D.done⟩ := ⟨_, rfl⟩
   have hF1 : F0 = D.room - (sumF (mixL D.l left l) : Int) := hF0
   have hF2 : D.room ≤ 4194304 := hp3.good.room
   have hF3 : (sumF (mixL D.l left l) : Int) ≤ D.room := hp3.good.sum
   rw [← hF0] at c1
   have hwr : wrap64 (F0 + ((f.b.length : Int) - ((cutF f (tailF l f.n)).b.length : Int))) = F0 + ((f.b.length : Int) - ((cutF f (tailF l f.n)).b.length : Int)) := by unfold wrap64; omega
   have hwr2 : IntKind.i64.wrap (F0 + ((f.b.length : Int) - ((cutF f (tailF l f.n)).b.length : Int))) = F0 + ((f.b.length : Int) - ((cutF f (tailF l f.n)).b.length : Int)) := by rw [IntKind.wrap_i64]; unfold wrap64 at hwr; exact hwr
   have HCUT := Lib.hid hCUT
   have HP3 := Lib.hid hp3
   have HMB3 := Lib.hid hmb3
   have HTR := Lib.hid htr
   have HRO := Lib.hid hro
   have HRG3 := Lib.hid hrg3
   have HRG1 := Lib.hid hrg1
   have HK3 := Lib.hid hk3
   have HS1 := Lib.hid hS1
   have HS2 := Lib.hid hS2
   have HKS := Lib.hid hks
   have HLT := Lib.hid hlt3
   have HLK := Lib.hid hlk
   have HF0 := Lib.hid hF0
   have HF1 := Lib.hid hF1
   have HLE := Lib.hid hlen'
   have HCL := Lib.hid hcl
   have HTB := Lib.hid htb
   have HF := Lib.hid hf
   have HFM := Lib.hid hfm
   have HST := Lib.hid hSt
   have HSR := Lib.hid hSr
   have HNR := Lib.hid hnr
   unfold atP at hen ⊢
   unfold tlV bv at hlook
   have hne : ∀ k, (k = t' ∨ (rv1 f.n).ownBlock = some k) → S1 k := fun k h => by
    rcases h with h | h
    ·rw [h]; exact hSt
    ·exact hSr k h
   have HNE := Lib.hid hne
   have hbt : ¬ (b = t' ∨ (rv1 f.n).ownBlock = some b) := by
    rintro (e | e)
    ·exact htr.ne_b hp3 e.symm
    ·exact row_ne hro hp3.blk ty_ne e
   have HBT := Lib.hid hbt
   clear hCUT hp3 hmb3 htr hro hrg3 hrg1 hk3 hS1 hS2 hks hlt3 hlk hF0 hF1 hF2 hF3 hlen' hcl hkl htb hf hfm hSt hSr hnr hne hbt hp1 hmb hsafe hblen hs3 hrr hbr
   go_wp2
   go_region_law
    (first | (try go_simp; go_at_call 50; refine HCUT.out.mono ?_; rintro rr w4 ⟨rfl, rv2, htr2, hro2, hnew2, hk2⟩; have c14 := hk2.cell (b := b) (o := 1) HBT.out (show w3.drew.cell? ⟨b, 1, none⟩ = _ from c1); have hb4 := (hk2.block b hlb HBT.out).trans (show w3.drew.heap[b]? = _ from HP3.out.blk); have f14 := blk_soft hb4 1; have hlb4 := lt_of_block hb4; have HB4 := Lib.hid hb4; have HTR2 := Lib.hid htr2; have HRO2 := Lib.hid hro2; have HNEW2 := Lib.hid hnew2; have HK2' := Lib.hid hk2; clear htr2 hro2 hnew2 hk2 hb4))
   all_goals
    first | rw [hwr2] | skip
    have hset : Keeps (fun k => k = b) w4 (w4.setCell ⟨b, 1, none⟩ (.int .i64 (F0 + ((f.b.length : Int) - ((cutF f (tailF l f.n)).b.length : Int))))) := keeps_set _
    have hyb := blk_set (i := 1) HB4.out (.int .i64 (F0 + ((f.b.length : Int) - ((cutF f (tailF l f.n)).b.length : Int))))
    have HSET := Lib.hid hset
    have HYB := Lib.hid hyb
    clear hset hyb c1 f1 c14 f14 hlb4 hlook hen hwr hwr2
    generalize w4.setCell ⟨b, 1, none⟩ (.int .i64 (F0 + ((f.b.length : Int) - ((cutF f (tailF l f.n)).b.length : Int)))) = y at *
    have hp3 := HP3.out
    have hfn' : (cutF f (tailF l f.n)).n = f.n := rfl
    have hk34 : Keeps (fun k => k = t' ∨ (rv1 f.n).ownBlock = some k) w3 w4 := (Keeps.drew _ w3).then HK2'.out
    have hk3y : Keeps S1 w3 y := (hk34.mono fun k _ h => HNE.out k h).then (HSET.out.mono fun k _ h => by rw [h]; exact hp3.sb)
    have hfew : Keeps (Few b m (tb (cutF f (tailF l f.n)).n) (if (tb (cutF f (tailF l f.n)).n).isSome then (rv1 (cutF f (tailF l f.n)).n).ownBlock else none)) w3 y := by
     rw [hfn', HTB.out]
     refine (hk34.mono fun k _ h => ?_).then (HSET.out.mono fun k _ h => .inl h)
     rcases h with h | h
     ·exact .inr (.inr (.inl (by rw [h])))
     ·exact .inr (.inr (.inr (by simpa using h)))
    have hmt : ¬ (m = t' ∨ (rv1 f.n).ownBlock = some m) := by
     rintro (e | e)
     ·exact HTR.out.ne_m hp3 e.symm
     ·obtain ⟨es, c, he⟩ := hp3.map.block
      exact row_ne_map HRO.out he e
    have hml : m < w3.heap.size := hp3.map.lt
    have hmy : y.heap[m]? = w3.heap[m]? := (HSET.out.block m (Nat.lt_of_lt_of_le hml hk34.size) (fun e => hp3.b_ne_m e.symm)).trans (hk34.block m hml hmt)
    have hr3 : r < w3.heap.size := HRG3.out.lt
    have hry : y.heap[r]? = w3.heap[r]? := hk3y.block r hr3 HNR.out
    have hbml : bm < w3.heap.size := HMB3.out.lt
    have hbmr : bm < r := by have := HMB.out.lt; have := HR.out; omega
    have hbmS : ¬ S1 bm := fun h => by
     rcases HS2.out bm h with h | h
     ·have := HP.out.slt bm h; omega
     ·omega
    have hbmy : y.heap[bm]? = w3.heap[bm]? := hk3y.block bm hbml hbmS
    have hris : RisF (mixL D.l left l) := hp3.good.ris
    have hln : lenF (mixL D.l left l) f.n = f.b.length := by unfold lenF; rw [hris.get HFM.out]
    have hsum := sumF_put hris (cutF f (tailF l f.n))
    rw [hfn', hln] at hsum
    have hstep := mixL_step (left' := fun z => left z && !z.sameKey (kI f.n)) HP.out.good.ris left l HF.out HLK.out (fun s => by simp [Lit.sameKey, kI])
    have hgood : (⟨putF (mixL D.l left l) (cutF f (tailF l f.n)), D.room, D.left, D.off, D.done⟩ : Dm).Good := by
     refine putF_good hp3.good (cutF f (tailF l f.n)) (hp3.good.num f HFM.out) (by rw [HCL.out]; exact Nat.le_refl _) ?_ _ _ _
     have h1 : (sumF (mixL D.l left l) : Int) ≤ D.room := hp3.good.sum
     show (sumF (mixL D.l left l) : Int) - lenF (mixL D.l left l) f.n + (cutF f (tailF l f.n)).b.length ≤ D.room
     rw [hln]
     have := HLE.out
     omega
    have hput := hp3.put (f := cutF f (tailF l f.n)) (t := t') (v' := rv2) (n' := n) (lf' := lf) (M' := M) (left' := D.left) (off' := D.off) (done' := D.done) hgood hfew (by
      rw [show Dm.free ⟨putF (mixL D.l left l) (cutF f (tailF l f.n)), D.room, D.left, D.off, D.done⟩ = F0 + ((f.b.length : Int) - ((cutF f (tailF l f.n)).b.length : Int)) from by
       show D.room - (sumF (putF (mixL D.l left l) (cutF f (tailF l f.n))) : Int) = _
       rw [HF1.out]
       omega]
      exact HYB.out) hp3.lfe hp3.lfw (hp3.map.of hmy) (by rw [hfn', upT_refl _ HTB.out]; exact hp3.rep) (.inl (by rw [hfn']; exact HTB.out))
     ((HSET.out.block t' (lt_of_block HTR2.out) (HTR.out.ne_b hp3)).trans HTR2.out)
     (HRO2.out.keep HSET.out (fun k hk e => by
      subst e
      rcases HNEW2.out with e2 | e2
      ·rw [e2] at hk; exact row_ne HRO.out hp3.blk ty_ne hk
      ·have h1 := e2 k hk
       have h2 : w3.heap.size ≤ k := h1
       omega))
     (by
      rcases HNEW2.out with h | h
      ·exact .inl ⟨by rw [hfn']; exact HTB.out, h⟩
      ·exact .inr h)
    rw [hstep] at hput
    have htbr : upT tb (cutF f (tailF l f.n)).n (some t') = tb := upT_refl _ HTB.out
    rw [htbr] at hput
    have hrgy := ranges_of HRG3.out hmy hry
    have HPUT := Lib.hid hput
    have HRGY := Lib.hid hrgy
    have hszy := hk3y.size
    have hrsz := HR.out
    have hb1z := HB1.out.size
    have hkwy : Keeps S w y := (HKS.out.trans HK3.out (fun k hk e => by omega)).trans hk3y (fun k hk h => by
     rcases HS2.out k h with h | h
     ·exact h
     ·omega)
    have HKWY := Lib.hid hkwy
    have hS2' : ∀ k, Grow S1 w3 y k → S k ∨ r < k := fun k h => by
     rcases h with h | h
     ·exact HS2.out k h
     ·exact .inr (by omega)
    have HS2' := Lib.hid hS2'
    have HMBY := Lib.hid (HMB3.out.of hbmy)
    have HRL := Lib.hid (show r < y.heap.size by omega)
    clear hput hrgy hszy hrsz hb1z hkwy hS2' htbr hgood hstep hsum hln hris hbmy hbmS hbmr hbml hry hr3 hmy hml hmt hfew hk3y hk34 hfn' hp3
    go_wp2
    go_roundw
    case rel => exact ⟨_, cnt3, Grow S1 w3 y, _, HRGY.out, HPUT.out, fun k h => .inl (HS1.out k h), HS2'.out, HMBY.out, HRL.out, HKWY.out⟩
    case measure => rw [HRGY.out.left_eq, HRG1.out.left_eq]; exact HLT.out

theorem blk_cellp {w : World} {b : Nat} {c : Array Value} {t : TypeId} {p : Nat × Nat} (h : w.heap[b]? = some (.cells c t p)) (i : Nat) : w.cell? ⟨b, i, none⟩ = c[i]? := by simp [World.cell?, h]
theorem bs_blk {w : World} {k : Nat} {l : List UInt8} {C : Array Value} {p : Nat × Nat} (h : w.heap[k]? = some (.cells C 5 p)) (hC : C.toList = bvs l) (hl : l.length ≤ maxLen) : Bs w k (.slice (some ⟨k, 0, none⟩) l.length l.length) l := by
 refine .inr ⟨0, l.length, rfl, Nat.le_refl _, hl, fun j x hx => ?_⟩
 rw [blk_cellp h, Nat.zero_add]
 have := bvs_at hx
 rw [← hC] at this
 simpa using this
theorem bl_blk {w : World} {g : Nat} {T : Nat → Prop} {L : List (List UInt8)} {C : Array Value} {t : TypeId} {p : Nat × Nat} (h : w.heap[g]? = some (.cells C t p)) (hg : T g)
  (hL : ∀ (i : Nat) l, L[i]? = some l → ∃ k, C[i]? = some (.slice (some ⟨k, 0, none⟩) l.length l.length) ∧ Bs w k (.slice (some ⟨k, 0, none⟩) l.length l.length) l ∧ T k) (c : Nat) : Bl w T (.slice (some ⟨g, 0, none⟩) L.length c) L := by
 refine ⟨_, c, rfl, fun _ => ⟨g, 0, rfl, hg, lt_of_block h, fun i l hl => ?_⟩⟩
 obtain ⟨k, h1, h2, h3⟩ := hL i l hl
 exact ⟨_, _, k, by rw [blk_cellp h, Nat.zero_add]; exact h1, h2.bw, fun _ => h3⟩
structure Liv (w x : World) (b : Nat) (S : Nat → Prop) (D : Dm) : Prop where
 p : PAt x b S D
 bel : Below w.heap.size w x
 own : ∀ k, S k → w.heap.size ≤ k
section
variable {w x : World} {b : Nat} {S : Nat → Prop} {D : Dm}
theorem Liv.lt (h : Liv w x b S D) : ∀ k, S k → k < x.heap.size := h.p.lt
theorem Liv.new {room : Int} {e : Ending} (h : Below w.heap.size w x) {y : World} (hn : NewD x room e y) : ∃ b, e = .returned (.tuple #[.pointer (some ⟨b, 0, none⟩), .int .i64 0]) ∧ x.heap.size ≤ b ∧ Keeps (fun _ => False) x y ∧ Liv w y b (Grow (fun _ => False) x y) (newD room) := by
 obtain ⟨b, h1, h2, h3, h4⟩ := hn
 refine ⟨b, h1, h2, h3, h4, h.trans (h3.below h.size (fun _ _ h => h)), fun k hk => ?_⟩
 rcases hk with hk | hk
 ·exact hk.elim
 ·exact Nat.le_trans h.size hk.1
theorem Liv.keep (h : Liv w x b S D) {y : World} (hk : Keeps (fun _ => False) x y) : Liv w y b S D := ⟨PAx.keep h.p hk (fun _ _ h => h), h.bel.trans (hk.below h.bel.size (fun _ _ h => h)), h.own⟩
theorem Liv.away (h : Liv w x b S D) {y : World} {U : Nat → Prop} (hk : Keeps U x y) (hU : ∀ k, S k → ¬ U k) (hw : ∀ k, U k → w.heap.size ≤ k) : Liv w y b S D :=
 ⟨PAx.keep h.p hk hU, h.bel.trans (hk.below h.bel.size (fun k hk hu => by have := hw k hu; omega)), h.own⟩
theorem Liv.op (h : Liv w x b S D) {r : Int × Dm} {e : Ending} {y : World} (hd : Done x b S r e y) : e = .returned (.int .i64 r.1) ∧ Keeps S x y ∧ Liv w y b (Grow S x y) r.2 := by
 obtain ⟨h1, h2, h3⟩ := hd
 refine ⟨h1, h2, h3, h.bel.trans (h2.below h.bel.size (fun k hk hs => by have := h.own k hs; omega)), fun k hk => ?_⟩
 rcases hk with hk | hk
 ·exact h.own k hk
 ·exact Nat.le_trans h.bel.size hk.1
theorem Liv.crash (h : Liv w x b S D) {T : List Tl} {y : World} (h2 : Keeps S x y) (h3 : PAt y b (Grow S x y) (crashD D T)) : Liv w y b (Grow S x y) (crashD D T) :=
 ⟨h3, h.bel.trans (h2.below h.bel.size (fun k hk hs => by have := h.own k hs; omega)), fun k hk => by
  rcases hk with hk | hk
  ·exact h.own k hk
  ·exact Nat.le_trans h.bel.size hk.1⟩
theorem Liv.free (h : Liv w x b S D) : Calls Try.prog 39 #[.pointer (some ⟨b, 0, none⟩)] x fun r w' => r = .returned (.int .i64 D.free) ∧ w' = x := by
 obtain ⟨m, n, lf, M, tb, rv, hp, _⟩ := h.p
 exact free_any hp
theorem Liv.ops (h : Liv w x b S D) : Calls Try.prog 38 #[.pointer (some ⟨b, 0, none⟩)] x fun r w' => r = .returned (.int .i64 D.done) ∧ w' = x := by
 obtain ⟨m, n, lf, M, tb, rv, hp, _⟩ := h.p
 exact ops_any hp
theorem Liv.dead (h : Liv w x b S D) : Calls Try.prog 37 #[.pointer (some ⟨b, 0, none⟩)] x fun r w' => r = .returned (.bool D.off) ∧ w' = x := by
 obtain ⟨m, n, lf, M, tb, rv, hp, _⟩ := h.p
 exact dead_any hp
theorem Liv.read (h : Liv w x b S D) (n : Int) : Calls Try.prog 36 #[.pointer (some ⟨b, 0, none⟩), .int .i64 n] x (ReadR x (readD D n)) := by
 obtain ⟨m, nn, lf, M, tb, rv, hp, _⟩ := h.p
 exact read_any n hp
theorem Liv.files (h : Liv w x b S D) : Calls Try.prog 35 #[.pointer (some ⟨b, 0, none⟩)] x fun e w' => ∃ v, e = .returned v ∧ S4.OwnI w' x.heap.size v (D.l.map Fil.n) ∧ Below x.heap.size x w' := by
 obtain ⟨m, nn, lf, M, tb, rv, hp, _⟩ := h.p
 exact files_any hp
theorem Liv.arm (h : Liv w x b S D) {n : Int} (hn : (Lit.int .i64 n).wf = true) : Calls Try.prog 21 #[.pointer (some ⟨b, 0, none⟩), .int .i64 n] x fun r w' => r = .returned (.tuple #[]) ∧ Keeps S x w' ∧ Liv w w' b S (armD D n) := by
 obtain ⟨m, nn, lf, M, tb, rv, hp, hc⟩ := h.p
 refine (arm_any hp hn).mono ?_
 rintro r w' ⟨rfl, hk, hp2⟩
 have hkS : Keeps S x w' := hk.mono fun k _ e => by rw [e]; exact hp.sb
 exact ⟨rfl, hkS, ⟨m, nn, n, M, tb, rv, hp2, hc⟩, h.bel.trans (hkS.below h.bel.size (fun k hk hs => by have := h.own k hs; omega)), h.own⟩
theorem Liv.append (h : Liv w x b S D) {T : Nat → Prop} (n : Int) {v : Value} {L : List (List UInt8)} (hd : D.done < 4000000) (hv : Bl x T v L) (hT : ∀ k, T k → ¬ S k ∧ k < x.heap.size) (hL : L.length ≤ 1000000) (hs : totL L ≤ 1000000000000) :
  Calls Try.prog 14 #[.pointer (some ⟨b, 0, none⟩), .int .i64 n, v] x fun e y => e = .returned (.int .i64 (appendD D n L.flatten).1) ∧ Keeps S x y ∧ Liv w y b (Grow S x y) (appendD D n L.flatten).2 :=
 (append_any n h.p hd hv hT hL hs).mono fun e y hd => h.op hd
theorem Liv.sync (h : Liv w x b S D) (n : Int) (hd : D.done < 4000000) :
  Calls Try.prog 17 #[.pointer (some ⟨b, 0, none⟩), .int .i64 n] x fun e y => e = .returned (.int .i64 (syncD D n).1) ∧ Keeps S x y ∧ Liv w y b (Grow S x y) (syncD D n).2 :=
 (sync_any n h.p hd).mono fun e y hd => h.op hd
theorem Liv.delete (h : Liv w x b S D) (n : Int) (hd : D.done < 4000000) :
  Calls Try.prog 19 #[.pointer (some ⟨b, 0, none⟩), .int .i64 n] x fun e y => e = .returned (.int .i64 (deleteD D n).1) ∧ Keeps S x y ∧ Liv w y b (Grow S x y) (deleteD D n).2 :=
 (delete_any n h.p hd).mono fun e y hd => h.op hd
theorem Liv.crashes (h : Liv w x b S D) {T : Nat → Prop} {v : Value} {l : List Tl} (hl : TlAt x T v l) (hT : ∀ k, T k → k < x.heap.size) (hlen : l.length ≤ 1000000) :
  Calls Try.prog 22 #[.pointer (some ⟨b, 0, none⟩), v] x fun r y => r = .returned (.tuple #[]) ∧ Keeps S x y ∧ Liv w y b (Grow S x y) (crashD D l) :=
 (crash_any h.p hl hT hlen).mono fun e y hd => ⟨hd.1, hd.2.1, h.crash hd.2.1 hd.2.2⟩
end

def Since (x y : World) (k : Nat) : Prop := x.heap.size ≤ k ∧ k < y.heap.size
theorem lists_one (w : World) (l : List UInt8) (C : Array Value) (hC : C.toList = bvs l) (hl : l.length ≤ maxLen) (p : Nat × Nat) (X : World) (hX : X = (w.alloc (.cells C 5 p)).alloc (.cells #[.slice (some ⟨w.heap.size, 0, none⟩) l.length l.length] 39)) :
  Keeps (fun _ => False) w X ∧ Bl X (Since w X) (.slice (some ⟨w.heap.size + 1, 0, none⟩) 1 1) [l] := by
 have h1 := heap_alloc_new w (.cells C 5 p)
 have h2 := heap_alloc_new (w.alloc (.cells C 5 p)) (.cells #[.slice (some ⟨w.heap.size, 0, none⟩) l.length l.length] 39)
 rw [← hX] at h2
 have k1 : Keeps (fun _ => False) w (w.alloc (.cells C 5 p)) := Keeps.alloc _ _ _
 have k2 : Keeps (fun _ => False) (w.alloc (.cells C 5 p)) X := by rw [hX]; exact Keeps.alloc _ _ _
 have hs : X.heap.size = w.heap.size + 2 := by rw [hX]; simp
 rw [World.size_alloc] at h2
 have g1 := (k2.block _ (by simp) (fun h => h)).trans h1
 refine ⟨k1.then k2, bl_blk (L := [l]) h2 ⟨by omega, by omega⟩ (fun i l' hl' => ?_) 1⟩
 match i, hl' with
 | 0, hl' =>
  simp at hl'
  subst hl'
  exact ⟨w.heap.size, rfl, bs_blk g1 hC hl, by unfold Since; omega⟩
end SZ
end Go.Proofs.Ytddbmibfebhmjaa
