/- What Delete does, as a closure over its parameters; Delete. Conditions: the drum was asked less than four million times. -/
import Derived.Deep.QuietTactic
import Derived.BigQuiet
import Derived.Shelf.Abstract
import Derived.Test.YtddbmibfebhmjaaMg22
set_option maxRecDepth 100000
set_option maxHeartbeats 16000000
set_option linter.unusedVariables false
namespace Go.Proofs.Ytddbmibfebhmjaa
open S2
namespace SZ
open Go.RowKit
theorem goodN_wf {n : Int} (h : goodN n = true) : (Lit.int .i64 n).wf = true := by have := goodN_iff.1 h; exact WalkArith.wf_i64 (by omega)
theorem look_drew {w : World} {m n : Nat} {M : DataW Value} {tb : Int → Option Nat} (h : MapT w m n M) (hr : RepP M tb) {s : Int} (hs : (Lit.int .i64 s).wf = true) (q : Nat) :
  (Instr.lookup 71 (.map (some m)) (.int .i64 s) false).run Try.prog (w.drewN q) = .ok (ptO (tb s)) (w.drewN q) := mapT_look (w := w.drewN q) (h.of rfl) hr hs
theorem row_slice {w : World} {g : Option Nat} {v : Value} {l : List UInt8} (h : Row w g v l) : ∃ a c, v = .slice a l.length c := by
 rcases h.bs with ⟨rfl, rfl⟩ | ⟨o, cap, rfl, _⟩
 ·exact ⟨_, _, rfl⟩
 ·exact ⟨_, _, rfl⟩
theorem keeps_drewN (S : Nat → Prop) (w : World) (q : Nat) : Keeps S w (w.drewN q) := ⟨rfl, rfl, rfl, Nat.le_refl _, fun _ _ _ => rfl⟩
theorem trk_set {w : World} {t s : Nat} {v : Value} (h : TrkAt w t v s) (s' : Nat) : TrkAt (w.setCell ⟨t, 1, none⟩ (.int .i64 s')) t v s' := blk_set h _
theorem trk_set0 {w : World} {t s : Nat} {v : Value} (h : TrkAt w t v s) (v' : Value) : TrkAt (w.setCell ⟨t, 0, none⟩ v') t v' s := blk_set h _
theorem sync_does {w : World} {b : Nat} {S : Nat → Prop} {D : Dm} {n : Int} {Bd Bf : Nat} (hn : goodN n = true) (hBd : w.cell? ⟨Bd, 0, none⟩ = some (atP b)) (hBf : w.cell? ⟨Bf, 0, none⟩ = some (.int .i64 n)) (hSd : ¬ S Bd) (hSf : ¬ S Bf) (hb : S b) :
  Does 47 #[.pointer (some ⟨Bd, 0, none⟩), .pointer (some ⟨Bf, 0, none⟩)] b S D (syncK n) w := by
 intro w1 left hk hp
 obtain ⟨m, nn, lf, M, tb, rv, hp, hcnt⟩ := hp
 have cd := hk.cell (b := Bd) (o := 0) (fun e => hSd (by rw [e]; exact hb)) hBd
 have cf := hk.cell (b := Bf) (o := 0) (fun e => hSf (by rw [e]; exact hb)) hBf
 have hld := World.block_lt_of_cell? _ _ cd
 have hlf := World.block_lt_of_cell? _ _ cf
 have hlb := lt_of_block hp.blk
 have c0 := blk_cell hp.blk 0
 simp at c0
 have hlk := look_drew hp.map hp.rep (goodN_wf hn)
 unfold atP at cd
 have HP := Lib.hid hp
 clear hBd hBf hk hp
 cases ht : tb n with
 | none =>
  rw [ht] at hlk
  simp only [ptO, Option.map_none] at hlk
  have hg := HP.out.tb_none ht
  have hs : syncK n ⟨D.l, D.room, left, false, D.done⟩ = (7, ⟨D.l, D.room, left, false, D.done⟩) := by
   unfold syncK
   rw [show getF (Dm.l ⟨D.l, D.room, left, false, D.done⟩) n = none from hg]
  rw [hs]
  clear hg hs ht
  go_enter Try.func47, Try.ntmps47
  go_wp2
  go_quiet (fail)
  go_wp2
  go_ret
  exact ⟨rfl, ⟨rfl, rfl, rfl, Nat.le_refl _, fun _ _ _ => rfl⟩, m, nn, lf, M, tb, rv, (HP.out.of (w' := w1.drewN _) (Nat.le_refl _) (fun _ _ => rfl)).wide (fun k h => .inl h) (fun k h => by rcases h with h | h; exact HP.out.slt k h; exact h.2), by simpa using hcnt⟩
 | some t =>
  rw [ht] at hlk
  simp only [ptO, Option.map_some] at hlk
  obtain ⟨f, hg⟩ := HP.out.tb_get ht
  obtain ⟨hf, hfn⟩ := getF_some hg
  have htn : tb f.n = some t := by rw [hfn]; exact ht
  obtain ⟨htr, hSt⟩ := HP.out.trk f hf t htn
  obtain ⟨hro, hSr⟩ := HP.out.row f hf
  obtain ⟨ra, rc, hrv⟩ := row_slice hro
  have hs : syncK n ⟨D.l, D.room, left, false, D.done⟩ = (0, ⟨putF D.l ⟨n, f.b, f.b.length⟩, D.room, left, false, D.done + 1⟩) := by
   unfold syncK
   rw [show getF (Dm.l ⟨D.l, D.room, left, false, D.done⟩) n = some f from hg]
  rw [hs]
  have t0 := blk_cell htr 0
  have t1 := blk_cell htr 1
  have f1 := blk_soft htr 1
  have hlt := lt_of_block htr
  simp [hrv] at t0
  simp at t1
  have HTR := Lib.hid htr
  have HRO := Lib.hid hro
  have HRV := Lib.hid hrv
  have HG := Lib.hid hg
  have HTN := Lib.hid ht
  have HST := Lib.hid hSt
  have HF := Lib.hid hf
  clear ht hSt hf
  have HSR := Lib.hid hSr
  clear hs htr hro hSr hrv hg htn
  go_enter Try.func47, Try.ntmps47
  go_wp2
  go_quiet (fail)
  go_wp2
  go_ret
  have hks : Keeps (fun k => k = t) w1 ((w1.drewN nq).setCell ⟨t, 1, none⟩ (.int .i64 (f.b.length : Int))) := (keeps_drewN _ w1 _).then (keeps_set _)
  have hp := HP.out
  have hln : lenF D.l n = f.b.length := by unfold lenF; rw [HG.out]
  have hris : RisF D.l := hp.good.ris
  have hsum := sumF_put hris ⟨n, f.b, f.b.length⟩
  have hsum2 : sumF (putF D.l ⟨n, f.b, f.b.length⟩) = sumF D.l := by
   have e : (⟨n, f.b, f.b.length⟩ : Fil).n = n := rfl
   have e2 : (⟨n, f.b, f.b.length⟩ : Fil).b = f.b := rfl
   rw [e, e2, hln] at hsum
   omega
  have hbt : b ≠ t := fun e => HTR.out.ne_b hp e.symm
  have hmt : m ≠ t := fun e => HTR.out.ne_m hp e.symm
  have hrow := HRO.out.keep hks (fun x hx e => by subst e; exact row_ne HRO.out HTR.out ty_ne2 hx)
  refine ⟨rfl, hks.mono (fun x _ e => by rw [e]; exact HST.out), m, nn, lf, M, _, _, hp.put (f := ⟨n, f.b, f.b.length⟩) (t := t) (v' := rv f.n) ?_ (hks.mono fun x _ e => .inr (.inr (.inl (by rw [e]; exact HTN.out)))) ?_ hp.lfe hp.lfw (hp.map.of (hks.block m (hp.slt m hp.sm) hmt)) (by rw [upT_refl _ HTN.out]; exact hp.rep) (.inl HTN.out) (trk_set HTR.out _) hrow (.inl ⟨HTN.out, by rw [hfn]⟩), by simpa using Nat.le_succ_of_le hcnt⟩
  ·refine putF_good hp.good _ (goodN_iff.1 hn) (Nat.le_refl _) ?_ _ _ _
   have := hp.good.sum
   show (sumF D.l : Int) - lenF D.l n + f.b.length ≤ D.room
   rw [hln]
   have e : (sumF D.l : Int) ≤ D.room := this
   omega
  ·rw [show Dm.free ⟨putF D.l ⟨n, f.b, f.b.length⟩, D.room, left, false, D.done⟩ = Dm.free ⟨D.l, D.room, left, false, D.done⟩ from by unfold Dm.free; rw [hsum2]]
   exact (hks.block b hlb hbt).trans hp.blk
def Done (w : World) (b : Nat) (S : Nat → Prop) (r : Int × Dm) (e : Ending) (w' : World) : Prop := e = .returned (.int .i64 r.1) ∧ Keeps S w w' ∧ PAt w' b (Grow S w w') r.2
theorem eg_sync : ∀ args w, (callFunc 47 args).run Try.prog w = .ok (.enter 47 args) w := Go.Proofs.enters_of Try.func47 (by kernel_rfl) rfl
theorem Done.behind {w x : World} {b : Nat} {S : Nat → Prop} {r : Int × Dm} {e : Ending} {w' : World} (hk : Keeps (fun _ => False) w x) (h : Done x b S r e w') : Done w b S r e w' := by
 obtain ⟨h1, h2, m, n, lf, M, tb, rv, h3, h4⟩ := h
 have hs := hk.size
 refine ⟨h1, (hk.mono (T := S) (fun _ _ h => h.elim)).then h2, m, n, lf, M, tb, rv, h3.wide (fun k h => ?_) (fun k h => ?_), h4⟩
 ·rcases h with h | h
  ·exact .inl h
  ·exact .inr ⟨Nat.le_trans hs h.1, h.2⟩
 ·rcases h with h | h
  ·exact h3.slt k (.inl h)
  ·exact h.2
theorem sync_any {w : World} {b : Nat} {S : Nat → Prop} {D : Dm} (n : Int) (h : PAt w b S D) (hd : D.done < 4000000) :
  Calls Try.prog 17 #[.pointer (some ⟨b, 0, none⟩), .int .i64 n] w (Done w b S (syncD D n)) := by
 have H := Lib.hid h
 clear h
 go_enter Try.func17, Try.ntmps17
 go_wp2_with fail
 have hk0 : Keeps (fun _ => False) w ((w.alloc (.cells #[.pointer (some ⟨b, 0, none⟩)] 25)).alloc (.cells #[.int .i64 n] 3)) := (Keeps.alloc _ _ _).then (Keeps.alloc _ _ _)
 have hx := PAx.keep H.out hk0 (fun _ _ h => h)
 refine (operate_any eg_sync hx (counts_sync n) hd (fun hg => sync_does hg ?_ ?_ (fun h => ?_) (fun h => ?_) hx.own)).mono ?_
 ·have h := heap_alloc_new w (.cells #[.pointer (some ⟨b, 0, none⟩)] 25)
  exact (Keeps.alloc (fun _ => False) _ _).cell (fun h => h) (blk_cell h 0)
 ·have h := heap_alloc_new (w.alloc (.cells #[.pointer (some ⟨b, 0, none⟩)] 25)) (.cells #[.int .i64 n] 3)
  rw [World.size_alloc] at h
  exact blk_cell h 0
 ·have := H.out.lt _ h; omega
 ·have := H.out.lt _ h; omega
 ·rintro e w' hdn
  clear hx
  have HDN := Lib.hid (Done.behind hk0 hdn)
  clear hdn
  have he := HDN.out.1
  subst he
  go_wp2
  go_ret
  exact HDN.out

theorem delete_does {w : World} {b : Nat} {S : Nat → Prop} {D : Dm} {n : Int} {Bd Bf : Nat} (hn : goodN n = true) (hBd : w.cell? ⟨Bd, 0, none⟩ = some (atP b)) (hBf : w.cell? ⟨Bf, 0, none⟩ = some (.int .i64 n)) (hSd : ¬ S Bd) (hSf : ¬ S Bf) (hb : S b) :
  Does 48 #[.pointer (some ⟨Bd, 0, none⟩), .pointer (some ⟨Bf, 0, none⟩)] b S D (deleteK n) w := by
 intro w1 left hk hp
 obtain ⟨m, nn, lf, M, tb, rv, hp, hcnt⟩ := hp
 have cd := hk.cell (b := Bd) (o := 0) (fun e => hSd (by rw [e]; exact hb)) hBd
 have cf := hk.cell (b := Bf) (o := 0) (fun e => hSf (by rw [e]; exact hb)) hBf
 have hld := World.block_lt_of_cell? _ _ cd
 have hlf := World.block_lt_of_cell? _ _ cf
 have hlb := lt_of_block hp.blk
 have c0 := blk_cell hp.blk 0
 simp at c0
 have hlk := look_drew hp.map hp.rep (goodN_wf hn)
 unfold atP at cd
 have HP := Lib.hid hp
 clear hBd hBf hk hp
 cases ht : tb n with
 | none =>
  rw [ht] at hlk
  simp only [ptO, Option.map_none] at hlk
  have hg := HP.out.tb_none ht
  have hs : deleteK n ⟨D.l, D.room, left, false, D.done⟩ = (7, ⟨D.l, D.room, left, false, D.done⟩) := by
   unfold deleteK
   rw [show getF (Dm.l ⟨D.l, D.room, left, false, D.done⟩) n = none from hg]
  rw [hs]
  clear hg hs ht
  go_enter Try.func48, Try.ntmps48
  go_wp2
  go_quiet (fail)
  go_wp2
  go_ret
  exact ⟨rfl, ⟨rfl, rfl, rfl, Nat.le_refl _, fun _ _ _ => rfl⟩, m, nn, lf, M, tb, rv, (HP.out.of (w' := w1.drewN _) (Nat.le_refl _) (fun _ _ => rfl)).wide (fun k h => .inl h) (fun k h => by rcases h with h | h; exact HP.out.slt k h; exact h.2), by simpa using hcnt⟩
 | some t =>
  rw [ht] at hlk
  simp only [ptO, Option.map_some] at hlk
  obtain ⟨f, hg⟩ := HP.out.tb_get ht
  obtain ⟨hf, hfn⟩ := getF_some hg
  have htn : tb f.n = some t := by rw [hfn]; exact ht
  obtain ⟨htr, hSt⟩ := HP.out.trk f hf t htn
  obtain ⟨hro, hSr⟩ := HP.out.row f hf
  obtain ⟨ra, rc, hrv⟩ := row_slice hro
  have hs : deleteK n ⟨D.l, D.room, left, false, D.done⟩ = (0, ⟨delF D.l n, D.room, left, false, D.done + 1⟩) := by
   unfold deleteK
   rw [show getF (Dm.l ⟨D.l, D.room, left, false, D.done⟩) n = some f from hg]
  rw [hs]
  have HTR := Lib.hid htr
  have HRV := Lib.hid hrv
  have HG := Lib.hid hg
  have HTN := Lib.hid ht
  have hwn := goodN_wf hn
  clear hs htr hro hSr hrv hg htn ht hSt hf
  go_enter Try.func48, Try.ntmps48
  go_wp2
  go_quiet (fail)
  clear hlk
  have hkx := keeps_drewN (fun _ => False) w1 nq
  have HKX := Lib.hid hkx
  have HPX := Lib.hid (HP.out.keep hkx (fun _ _ h => h))
  have HTX : Hid (TrkAt (w1.drewN nq) t (rv f.n) f.s) := HTR.out
  generalize w1.drewN nq = x at *
  obtain ⟨w2, hdel, hm2, hg2⟩ := mapT_drop (w := x.drew) (HPX.out.map.of rfl) hwn 0
  replace cd := hkx.cell (b := Bd) (o := 0) (fun h => h) cd
  replace cf := hkx.cell (b := Bf) (o := 0) (fun h => h) cf
  replace c0 := hkx.cell (b := b) (o := 0) (fun h => h) c0
  replace hld := World.block_lt_of_cell? _ _ cd
  replace hlf := World.block_lt_of_cell? _ _ cf
  replace hlb := World.block_lt_of_cell? _ _ c0
  clear hkx
  have HM2 := Lib.hid hm2
  have HG2 := Lib.hid hg2
  clear hm2 hg2
  go_wp2
  go_region
  have hk2 : Keeps (fun k => k = m) x w2 := (Keeps.drew _ x).then (Keeps.grown (w := x.drew) HG2.out (fun k _ e => by simpa using e.symm))
  have hpx := HPX.out
  have hmm := hpx.sm
  have hbm := hpx.b_ne_m
  have htm := HTX.out.ne_m hpx
  have htb := HTX.out.ne_b hpx
  have hb2 := (hk2.block b hlb hbm).trans hpx.blk
  have ht2 : TrkAt w2 t (rv f.n) f.s := (hk2.block t (lt_of_block HTX.out) htm).trans HTX.out
  have hBdm : Bd ≠ m := fun e => hSd (by rw [e]; exact hmm)
  have hBfm : Bf ≠ m := fun e => hSf (by rw [e]; exact hmm)
  replace cd := hk2.cell (b := Bd) (o := 0) hBdm cd
  replace hld := World.block_lt_of_cell? _ _ cd
  have c1 := blk_cell hb2 1
  have f1 := blk_soft hb2 1
  have t0 := blk_cell ht2 0
  have hlt2 := lt_of_block ht2
  have hlb2 := lt_of_block hb2
  simp at c1
  simp [HRV.out] at t0
  have hsum : sumF (delF D.l n) + lenF D.l n = sumF D.l := sumF_del hpx.good.ris n
  have hln : lenF D.l n = f.b.length := by unfold lenF; rw [HG.out]
  have hfree : Dm.free ⟨delF D.l n, D.room, left, false, D.done⟩ = Dm.free ⟨D.l, D.room, left, false, D.done⟩ + f.b.length := by unfold Dm.free; show D.room - (sumF (delF D.l n) : Int) = D.room - (sumF D.l : Int) + _; omega
  have hwr : wrap64 (Dm.free ⟨D.l, D.room, left, false, D.done⟩ + f.b.length) = Dm.free ⟨D.l, D.room, left, false, D.done⟩ + f.b.length := by
   have h1 := hpx.good.sum
   have h2 := hpx.good.room
   have h3 : (sumF (delF D.l n) : Int) + f.b.length = sumF D.l := by omega
   rw [← hfree]
   unfold Dm.free
   have e : (Dm.room ⟨D.l, D.room, left, false, D.done⟩) = D.room := rfl
   have e2 : (Dm.l ⟨D.l, D.room, left, false, D.done⟩) = D.l := rfl
   rw [e, e2] at h1
   rw [e] at h2
   show wrap64 (D.room - (sumF (delF D.l n) : Int)) = D.room - (sumF (delF D.l n) : Int)
   unfold wrap64
   omega
  have HK2 := Lib.hid hk2
  have HB2 := Lib.hid hb2
  have HT2 := Lib.hid ht2
  have HF := Lib.hid hfree
  clear hk2 hpx hmm hbm htm htb hb2 ht2 hBdm hBfm hsum hln hfree hdel cf c0 hlf hlb
  go_wp2
  go_region
  go_wp2
  go_ret
  have hp := HP.out
  have hset : Keeps (fun k => k = b) w2 (w2.setCell ⟨b, 1, none⟩ (.int .i64 (Dm.free ⟨D.l, D.room, left, false, D.done⟩ + f.b.length))).drew := (keeps_set _).then (Keeps.drew _ _)
  have h1 : Keeps (Few b m none none) w1 w2 := (HKX.out.mono (fun _ _ h => h.elim)).then (HK2.out.mono (fun k _ e => .inr (.inl e)))
  have hks := h1.then (hset.mono (fun k _ e => .inl e))
  refine ⟨rfl, hks.mono (fun k _ h => ?_), m, nn, lf, _, _, rv, hp.del (x := n) hks ?_ hp.lfe hp.lfw (MapT.of HM2.out (hset.block m HM2.out.lt (fun e => hp.b_ne_m e.symm))) (repP_del hp.rep n), by simpa using Nat.le_succ_of_le hcnt⟩
  ·rcases h with rfl | rfl | h | h
   ·exact hp.sb
   ·exact hp.sm
   ·cases h
   ·cases h
  ·rw [HF.out]
   exact blk_set (i := 1) HB2.out _
theorem eg_delete : ∀ args w, (callFunc 48 args).run Try.prog w = .ok (.enter 48 args) w := Go.Proofs.enters_of Try.func48 (by kernel_rfl) rfl
theorem delete_any {w : World} {b : Nat} {S : Nat → Prop} {D : Dm} (n : Int) (h : PAt w b S D) (hd : D.done < 4000000) :
  Calls Try.prog 19 #[.pointer (some ⟨b, 0, none⟩), .int .i64 n] w (Done w b S (deleteD D n)) := by
 have H := Lib.hid h
 clear h
 go_enter Try.func19, Try.ntmps19
 go_wp2_with fail
 have hk0 : Keeps (fun _ => False) w ((w.alloc (.cells #[.pointer (some ⟨b, 0, none⟩)] 25)).alloc (.cells #[.int .i64 n] 3)) := (Keeps.alloc _ _ _).then (Keeps.alloc _ _ _)
 have hx := PAx.keep H.out hk0 (fun _ _ h => h)
 refine (operate_any eg_delete hx (counts_delete n) hd (fun hg => delete_does hg ?_ ?_ (fun h => ?_) (fun h => ?_) hx.own)).mono ?_
 ·have h := heap_alloc_new w (.cells #[.pointer (some ⟨b, 0, none⟩)] 25)
  exact (Keeps.alloc (fun _ => False) _ _).cell (fun h => h) (blk_cell h 0)
 ·have h := heap_alloc_new (w.alloc (.cells #[.pointer (some ⟨b, 0, none⟩)] 25)) (.cells #[.int .i64 n] 3)
  rw [World.size_alloc] at h
  exact blk_cell h 0
 ·have := H.out.lt _ h; omega
 ·have := H.out.lt _ h; omega
 ·rintro e w' hdn
  clear hx
  have HDN := Lib.hid (Done.behind hk0 hdn)
  clear hdn
  have he := HDN.out.1
  subst he
  go_wp2
  go_ret
  exact HDN.out
end SZ
end Go.Proofs.Ytddbmibfebhmjaa
