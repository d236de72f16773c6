/- What Append does, as a closure over its parameters; Append. Conditions: the drum was asked less than four million times; at most 2^40 bytes are handed over. -/
import Derived.Deep.RegionHeld3
import Derived.Test.YtddbmibfebhmjaaMg23
set_option maxRecDepth 100000
set_option maxHeartbeats 16000000
set_option linter.unusedVariables false
namespace Go.Proofs.Ytddbmibfebhmjaa
open S2
namespace SZ
open Go.RowKit
theorem trk_new (w : World) : TrkAt (w.alloc (.cells #[.slice none 0 0, .int .i64 0] 79)) w.heap.size (.slice none 0 0) 0 := heap_alloc_new w _
theorem append_does {w : World} {b : Nat} {S T : Nat → Prop} {D : Dm} {n : Int} {Bd Bf Bb : Nat} {v : Value} {L : List (List UInt8)} (hn : goodN n = true) (hd : D.done < 4000000) (hBd : w.cell? ⟨Bd, 0, none⟩ = some (atP b)) (hBb : w.cell? ⟨Bb, 0, none⟩ = some v) (hBf : w.cell? ⟨Bf, 0, none⟩ = some (.int .i64 n))
  (hSd : ¬ S Bd) (hSf : ¬ S Bf) (hSb : ¬ S Bb) (hb : S b) (hv : Bl w T v L) (hT : ∀ k, T k → ¬ S k ∧ k < w.heap.size) (hL : L.length ≤ 1000000) (hs : totL L ≤ 1000000000000) :
  Does 41 #[.pointer (some ⟨Bd, 0, none⟩), .pointer (some ⟨Bb, 0, none⟩), .pointer (some ⟨Bf, 0, none⟩)] b S D (appendK n L.flatten) w := by
 intro w1 left hk hp
 obtain ⟨m, nn, lf, M, tb, rv, hp, hcnt⟩ := hp
 have cd := hk.cell (b := Bd) (o := 0) (fun e => hSd (by rw [e]; exact hb)) hBd
 have cf := hk.cell (b := Bf) (o := 0) (fun e => hSf (by rw [e]; exact hb)) hBf
 have cb := hk.cell (b := Bb) (o := 0) (fun e => hSb (by rw [e]; exact hb)) hBb
 have hv1 := hv.keep hk (fun k h e => (hT k h).1 (by rw [e]; exact hb))
 have hT1 : ∀ k, T k → ¬ S k ∧ k < w1.heap.size := fun k h => ⟨(hT k h).1, Nat.lt_of_lt_of_le (hT k h).2 hk.size⟩
 have hld := World.block_lt_of_cell? _ _ cd
 have hlf := World.block_lt_of_cell? _ _ cf
 have hlv := World.block_lt_of_cell? _ _ cb
 have hlb := lt_of_block hp.blk
 have c0 := blk_cell hp.blk 0
 have c1 := blk_cell hp.blk 1
 simp at c0 c1
 unfold atP at cd
 have hg0 := hp.good.sum
 have hg1 := hp.good.room
 have e1 : (Dm.room ⟨D.l, D.room, left, false, D.done⟩) = D.room := rfl
 have e2 : (Dm.l ⟨D.l, D.room, left, false, D.done⟩) = D.l := rfl
 rw [e1, e2] at hg0
 rw [e1] at hg1
 have hfe : Dm.free ⟨D.l, D.room, left, false, D.done⟩ = D.room - sumF D.l := rfl
 have hless := fun q => less_any (w1.drewN q) T (D.room - sumF D.l) v L (hv1.keep (keeps_drewN (fun _ => False) w1 q) (fun _ _ h => h)) (by omega) (by omega) hL (by omega)
 rw [hfe] at c1
 have HLESS := Lib.hid hless
 have HP := Lib.hid hp
 have HV := Lib.hid hv1
 have HT := Lib.hid hT1
 obtain ⟨va, vc, rfl⟩ := hv.form
 clear hBd hBf hBb hk hp hv1 hT1 hless hv hT hfe
 by_cases hfit : (totL L : Int) ≤ D.room - sumF D.l
 ·have hapK : appendK n L.flatten ⟨D.l, D.room, left, false, D.done⟩ = (0, ⟨putF D.l (addF D.l n L.flatten), D.room, left, false, D.done + 1⟩) := by
   unfold appendK
   rw [if_neg]
   show ¬ (D.room - (sumF D.l : Int) < (L.flatten.length : Int))
   have : (L.flatten.length : Int) = totL L := rfl
   omega
  rw [hapK]
  have HL2 : Hid (∀ q, Calls Try.prog 42 #[.int .i64 (D.room - sumF D.l), .slice va L.length vc] (w1.drewN q) fun r w' => r = .returned (.tuple #[.int .i64 (D.room - sumF D.l - totL L), .bool true]) ∧ w' = w1.drewN q) := Lib.hid fun q => by
   have := HLESS.out q
   rw [if_pos hfit, decide_eq_true hfit] at this
   exact this
  have hgood : (⟨putF D.l (addF D.l n L.flatten), D.room, left, false, D.done⟩ : Dm).Good := by
   refine putF_good HP.out.good _ (by rw [addF_n]; exact goodN_iff.1 hn) (addF_safe HP.out.good.safe n _) ?_ _ _ _
   rw [addF_n, addF_len]
   have h1 := lenF_le D.l n
   have h2 : (L.flatten.length : Int) = totL L := rfl
   show (sumF D.l : Int) - lenF D.l n + ((lenF D.l n + L.flatten.length : Nat) : Int) ≤ D.room
   omega
  have hfree : Dm.free ⟨putF D.l (addF D.l n L.flatten), D.room, left, false, D.done⟩ = D.room - sumF D.l - totL L := by
   have hris : RisF D.l := HP.out.good.ris
   have h1 := sumF_put hris (addF D.l n L.flatten)
   rw [addF_n, addF_len] at h1
   have h2 : L.flatten.length = totL L := rfl
   have h3 := lenF_le D.l n
   show D.room - (sumF (putF D.l (addF D.l n L.flatten)) : Int) = _
   omega
  have HGOOD := Lib.hid hgood
  have HFREE := Lib.hid hfree
  clear hapK HLESS hgood hfree hfit
  have hlk := look_drew HP.out.map HP.out.rep (goodN_wf hn)
  cases ht : tb n with
  | some t =>
   rw [ht] at hlk
   simp only [ptO, Option.map_some] at hlk
   obtain ⟨f, hg⟩ := HP.out.tb_get ht
   obtain ⟨hf, hfn⟩ := getF_some hg
   have htn : tb f.n = some t := by rw [hfn]; exact ht
   obtain ⟨htr, hSt⟩ := HP.out.trk f hf t htn
   obtain ⟨hro, hSr⟩ := HP.out.row f hf
   have haf : addF D.l n L.flatten = ⟨n, f.b ++ L.flatten, f.s⟩ := by unfold addF; rw [show getF D.l n = some f from hg]
   have hbl : f.b.length ≤ 4194304 := HP.out.good.blen hf
   have hls := lt_of_block htr
   have HTR := Lib.hid htr
   have HRO := Lib.hid hro
   have HTN := Lib.hid ht
   have HST := Lib.hid hSt
   have HSR := Lib.hid hSr
   have HAF := Lib.hid haf
   clear ht htr hro hSr hSt hg htn hf haf
   go_enter Try.func41, Try.ntmps41
   go_wp2
   go_quiet (first | (go_at_call 42; exact Calls.quiet_of_same (HL2.out _)))
   clear hlk c1
   have hkx : Keeps (fun _ => False) w1 (w1.drewN nq) := keeps_drewN _ _ _
   generalize w1.drewN nq = x1 at *
   replace cd := hkx.cell (b := Bd) (o := 0) (fun h => h) cd
   replace cf := hkx.cell (b := Bf) (o := 0) (fun h => h) cf
   replace cb := hkx.cell (b := Bb) (o := 0) (fun h => h) cb
   replace c0 := hkx.cell (b := b) (o := 0) (fun h => h) c0
   replace hld := World.block_lt_of_cell? _ _ cd
   replace hlf := World.block_lt_of_cell? _ _ cf
   replace hlv := World.block_lt_of_cell? _ _ cb
   replace hlb := World.block_lt_of_cell? _ _ c0
   have hlk := look_drew (HP.out.keep hkx (fun _ _ h => h)).map HP.out.rep (goodN_wf hn)
   rw [HTN.out] at hlk
   simp only [ptO, Option.map_some] at hlk
   have HK1 := Lib.hid hkx
   clear hkx
   go_wp2
   go_quiet (fail)
   go_wp2
   clear hlk
   have hkx : Keeps (fun _ => False) x1 (x1.drewN nq) := keeps_drewN _ _ _
   generalize x1.drewN nq = x at *
   replace cd := hkx.cell (b := Bd) (o := 0) (fun h => h) cd
   replace cf := hkx.cell (b := Bf) (o := 0) (fun h => h) cf
   replace cb := hkx.cell (b := Bb) (o := 0) (fun h => h) cb
   replace c0 := hkx.cell (b := b) (o := 0) (fun h => h) c0
   replace hld := World.block_lt_of_cell? _ _ cd
   replace hlf := World.block_lt_of_cell? _ _ cf
   replace hlv := World.block_lt_of_cell? _ _ cb
   replace hlb := World.block_lt_of_cell? _ _ c0
   replace hkx := HK1.out.then hkx
   have HKX := Lib.hid hkx
   have HPX := Lib.hid (HP.out.keep hkx (fun _ _ h => h))
   have HTX : Hid (TrkAt x t (rv f.n) f.s) := (hkx.block t hls (fun h => h)).trans HTR.out
   have HVX := Lib.hid (HV.out.keep hkx (fun _ _ h => h))
   have HRX := Lib.hid (HRO.out.keep hkx (fun _ _ h => h))
   clear hkx HK1
   have hlx := mapT_look (w := x.drew) (HPX.out.map.of rfl) HPX.out.rep (goodN_wf hn)
   rw [HTN.out] at hlx
   simp only [ptO, Option.map_some] at hlx
   have HADD := Lib.hid (addT_any x.drew T t f.s (rv f.n) _ f.b L HTX.out HRX.out HVX.out (fun k hk => ⟨fun e => (HT.out k hk).1 (by rw [e]; exact HST.out), fun e => (HT.out k hk).1 (HSR.out k e), Nat.lt_of_lt_of_le (HT.out k hk).2 HKX.out.size⟩) hL (by omega))
   have hbt : ∀ (k : Nat) (u : Value), x.cell? ⟨k, 0, none⟩ = some u → k = Bd ∨ k = Bf ∨ k = Bb ∨ k = b → ¬ (k = t ∨ (rv f.n).ownBlock = some k) := by
    intro k u _ hk h
    have hin : S k → k = b := fun hs => by
     rcases hk with e | e | e | e
     ·rw [e] at hs; exact absurd hs hSd
     ·rw [e] at hs; exact absurd hs hSf
     ·rw [e] at hs; exact absurd hs hSb
     ·exact e
    rcases h with e | e
    ·have e2 := hin (by rw [e]; exact HST.out)
     exact HTR.out.ne_b HP.out (by rw [← e, e2])
    ·have e2 := hin (HSR.out k e)
     rw [e2] at e
     exact row_ne HRO.out HP.out.blk ty_ne e
   have HBT := Lib.hid hbt
   have HMT : Hid (¬ (m = t ∨ (rv f.n).ownBlock = some m)) := by
    rintro (e | e)
    ·exact HTR.out.ne_m HP.out e.symm
    ·obtain ⟨es, c, he⟩ := HP.out.map.block
     exact row_ne_map HRO.out he e
   clear hbt
   go_region_held3 (fun w' => w'.cell? ⟨Bd, 0, none⟩ = some (.pointer (some ⟨b, 0, none⟩)) ∧ w'.cell? ⟨Bf, 0, none⟩ = some (.int .i64 n) ∧ w'.cell? ⟨Bb, 0, none⟩ = some (.slice va L.length vc) ∧ w'.cell? ⟨b, 0, none⟩ = some (.map (some m)) ∧ (Instr.lookup 71 (.map (some m)) (.int .i64 n) false).run Try.prog w' = .ok (.pointer (some ⟨t, 0, none⟩)) w')
    (first | exact ⟨cd, cf, cb, c0, hlx⟩ | exact ⟨d2, f2, b2, m2, l2⟩)
    (first | (go_at_call 43; refine HADD.out.mono ?_; rintro r w2 ⟨rfl, rv2, htr2, hro2, hnew2, hk2⟩; have d2 := hk2.cell (HBT.out Bd _ cd (.inl rfl)) (show x.drew.cell? ⟨Bd, 0, none⟩ = _ from cd); have f2 := hk2.cell (HBT.out Bf _ cf (.inr (.inl rfl))) (show x.drew.cell? ⟨Bf, 0, none⟩ = _ from cf); have b2 := hk2.cell (HBT.out Bb _ cb (.inr (.inr (.inl rfl)))) (show x.drew.cell? ⟨Bb, 0, none⟩ = _ from cb); have m2 := hk2.cell (HBT.out b _ c0 (.inr (.inr (.inr rfl)))) (show x.drew.cell? ⟨b, 0, none⟩ = _ from c0); have hmw := MapT.of (w' := w2) (HPX.out.map) (hk2.block m (HPX.out.map.lt) HMT.out); have l2 := mapT_look hmw HPX.out.rep (goodN_wf hn); rw [HTN.out] at l2; have HTR2 := Lib.hid htr2; have HRO2 := Lib.hid hro2; have HNEW2 := Lib.hid hnew2; have HK2 := Lib.hid hk2; clear htr2 hro2 hnew2 hk2 hmw))
   have hbk := HK2.out.block b hlb (HBT.out b _ c0 (.inr (.inr (.inr rfl))))
   have hb2 := hbk.trans (show x.drew.heap[b]? = _ from HPX.out.blk)
   have f1 := blk_soft hb2 1
   have c1 := blk_cell hb2 1
   have hlb2 := lt_of_block hb2
   have hlbd := World.block_lt_of_cell? _ _ d2
   simp at c1
   have HB2 := Lib.hid hb2
   clear hbk hb2 cd cf cb c0 hlx f2 b2 m2 l2
   go_wp2
   go_ret
   have hp := HP.out
   have hafn : (addF D.l n L.flatten).n = n := addF_n _ _ _
   have hset : Keeps (fun k => k = b) w2 (w2.setCell ⟨b, 1, none⟩ (.int .i64 (D.room - sumF D.l - totL L))) := keeps_set _
   have hk2 : Keeps (fun k => k = t ∨ (rv f.n).ownBlock = some k) x w2 := (Keeps.drew _ x).then HK2.out
   have hks : Keeps (Few b m (tb (addF D.l n L.flatten).n) (if (tb (addF D.l n L.flatten).n).isSome then (rv (addF D.l n L.flatten).n).ownBlock else none)) w1 (w2.setCell ⟨b, 1, none⟩ (.int .i64 (D.room - sumF D.l - totL L))) := by
    rw [hafn, HTN.out]
    refine ((HKX.out.mono (fun _ _ h => h.elim)).then (hk2.mono fun k _ h => ?_)).then (hset.mono fun k _ h => .inl h)
    rcases h with h | h
    ·exact .inr (.inr (.inl (by rw [h])))
    ·rw [hfn] at h
     exact .inr (.inr (.inr (by simpa using h)))
   have hbtt : t ≠ b := HTR.out.ne_b hp
   have hrow2 := HRO2.out.keep hset (fun k hk e => by
    subst e
    rcases HNEW2.out with e2 | e2
    ·rw [e2] at hk; exact row_ne HRO.out hp.blk ty_ne hk
    ·have := e2 k hk
     have h3 : k < x.heap.size := hlb
     exact absurd this (by show ¬ (x.heap.size ≤ k); omega))
   refine ⟨rfl, (((HKX.out.mono (fun _ _ h => h.elim)).then (hk2.mono fun k _ h => ?_)).then (hset.mono fun k _ h => by rw [h]; exact hb)), m, nn, lf, M, _, _, hp.put (f := addF D.l n L.flatten) (t := t) (v' := rv2) HGOOD.out hks ?_ hp.lfe hp.lfw (hp.map.of ?_) (by rw [hafn, upT_refl _ HTN.out]; exact hp.rep) (.inl (by rw [hafn]; exact HTN.out)) ?_ ?_ ?_, by simpa using Nat.le_succ_of_le hcnt⟩
   ·rcases h with h | h
    ·rw [h]; exact HST.out
    ·exact HSR.out k h
   ·rw [HFREE.out]
    exact blk_set (i := 1) HB2.out _
   ·have hmx : m < x.heap.size := HPX.out.map.lt
    exact (hset.block m (Nat.lt_of_lt_of_le hmx hk2.size) (fun e => hp.b_ne_m e.symm)).trans ((hk2.block m hmx HMT.out).trans (HKX.out.block m (hp.slt m hp.sm) (fun h => h)))
   ·rw [HAF.out]
    exact (hset.block t (lt_of_block HTR2.out) hbtt).trans HTR2.out
   ·rw [HAF.out]
    exact hrow2
   ·rw [hafn]
    rcases HNEW2.out with h | h
    ·rw [hfn] at h; exact .inl ⟨HTN.out, h⟩
    ·exact .inr (New.later (b := x) h HKX.out)
  | none =>
   rw [ht] at hlk
   simp only [ptO, Option.map_none] at hlk
   have hg := HP.out.tb_none ht
   have haf : addF D.l n L.flatten = ⟨n, L.flatten, 0⟩ := by unfold addF; rw [show getF D.l n = none from hg]
   have HTN := Lib.hid ht
   have HAF := Lib.hid haf
   clear ht hg haf
   go_enter Try.func41, Try.ntmps41
   go_wp2
   go_quiet (first | (go_at_call 42; exact Calls.quiet_of_same (HL2.out _)))
   clear hlk c1
   have hkx : Keeps (fun _ => False) w1 (w1.drewN nq) := keeps_drewN _ _ _
   generalize w1.drewN nq = x1 at *
   replace cd := hkx.cell (b := Bd) (o := 0) (fun h => h) cd
   replace cf := hkx.cell (b := Bf) (o := 0) (fun h => h) cf
   replace cb := hkx.cell (b := Bb) (o := 0) (fun h => h) cb
   replace c0 := hkx.cell (b := b) (o := 0) (fun h => h) c0
   replace hld := World.block_lt_of_cell? _ _ cd
   replace hlf := World.block_lt_of_cell? _ _ cf
   replace hlv := World.block_lt_of_cell? _ _ cb
   replace hlb := World.block_lt_of_cell? _ _ c0
   have hlk := look_drew (HP.out.keep hkx (fun _ _ h => h)).map HP.out.rep (goodN_wf hn)
   rw [HTN.out] at hlk
   simp only [ptO, Option.map_none] at hlk
   have HK1 := Lib.hid hkx
   clear hkx
   go_wp2
   go_quiet (fail)
   go_wp2
   clear hlk
   have hkx : Keeps (fun _ => False) x1 (x1.drewN nq) := keeps_drewN _ _ _
   generalize x1.drewN nq = x at *
   replace cd := hkx.cell (b := Bd) (o := 0) (fun h => h) cd
   replace cf := hkx.cell (b := Bf) (o := 0) (fun h => h) cf
   replace cb := hkx.cell (b := Bb) (o := 0) (fun h => h) cb
   replace c0 := hkx.cell (b := b) (o := 0) (fun h => h) c0
   replace hld := World.block_lt_of_cell? _ _ cd
   replace hlf := World.block_lt_of_cell? _ _ cf
   replace hlv := World.block_lt_of_cell? _ _ cb
   replace hlb := World.block_lt_of_cell? _ _ c0
   replace hkx := HK1.out.then hkx
   have HKX := Lib.hid hkx
   have HPX := Lib.hid (HP.out.keep hkx (fun _ _ h => h))
   have HVX := Lib.hid (HV.out.keep hkx (fun _ _ h => h))
   clear hkx HK1
   obtain ⟨w2, hup, hm2, hg2⟩ := mapT_upd (w := (x.alloc (.cells #[.slice none 0 0, .int .i64 0] 79)).drew) (MapT.of HPX.out.map ((Keeps.alloc (fun _ => False) x (.cells #[.slice none 0 0, .int .i64 0] 79)).block m HPX.out.map.lt (fun h => h))) (goodN_wf hn) (by omega) x.heap.size
   unfold atP at hup
   go_region
   obtain ⟨t, ht⟩ : ∃ t, t = x.heap.size := ⟨_, rfl⟩
   have hk2 : Keeps (fun k => k = m) x w2 := ((Keeps.alloc (fun k => k = m) x (.cells #[.slice none 0 0, .int .i64 0] 79)).then (Keeps.drew _ _)).then (Keeps.grown hg2 (fun k _ e => by simpa using e.symm))
   have hmm := HP.out.sm
   have htm : t ≠ m := by have := HPX.out.map.lt; omega
   have htr : TrkAt w2 t (.slice none 0 0) 0 := by
    have h := trk_new x
    rw [← ht] at h
    have hlt := lt_of_block h
    exact (hg2.block t hlt (fun e => htm (by simpa using e))).trans h
   have hrep := repP_put (HPX.out.rep) n t
   have hm2t : MapT w2 m (nn + 1) (M.put (kI n) (.held (atP t))) := by rw [ht]; exact hm2
   have hlx := mapT_look (w := w2.drew) (hm2t.of rfl) hrep (goodN_wf hn)
   rw [upT_same] at hlx
   simp only [ptO, Option.map_some] at hlx
   replace cd := hk2.cell (b := Bd) (o := 0) (fun e => hSd (by rw [e]; exact hmm)) cd
   replace cf := hk2.cell (b := Bf) (o := 0) (fun e => hSf (by rw [e]; exact hmm)) cf
   replace cb := hk2.cell (b := Bb) (o := 0) (fun e => hSb (by rw [e]; exact hmm)) cb
   replace c0 := hk2.cell (b := b) (o := 0) HP.out.b_ne_m c0
   have hxt : ∀ k, k < x.heap.size → k ≠ t := fun k h e => by omega
   have hbd : Bd ≠ t := hxt _ hld
   have hbf : Bf ≠ t := hxt _ hlf
   have hbv : Bb ≠ t := hxt _ hlv
   have hbb : b ≠ t := hxt _ hlb
   replace hld := World.block_lt_of_cell? _ _ cd
   replace hlf := World.block_lt_of_cell? _ _ cf
   replace hlv := World.block_lt_of_cell? _ _ cb
   have hlb1 := hlb
   replace hlb := World.block_lt_of_cell? _ _ c0
   have HADD := Lib.hid (addT_any w2.drew T t 0 (.slice none 0 0) _ [] L htr (Row.nil _) ((HVX.out.keep hk2 (fun k hk e => (HT.out k hk).1 (by rw [e]; exact hmm))).keep (Keeps.drew (fun _ => False) _) (fun _ _ h => h)) (fun k hk => ⟨(fun e => by have := Nat.lt_of_lt_of_le (HT.out k hk).2 HKX.out.size; omega), (fun e => by cases e), Nat.lt_of_lt_of_le (HT.out k hk).2 (Nat.le_trans HKX.out.size hk2.size)⟩) hL (by simp; omega))
   have HTRK := Lib.hid htr
   have HREP := Lib.hid hrep
   have HM2 := Lib.hid hm2t
   have HKW := Lib.hid hk2
   have HXT := Lib.hid ht
   clear hup hm2 hg2 hk2 htr hrep hm2t ht hxt
   go_wp2
   go_region_held3 (fun w' => w'.cell? ⟨Bd, 0, none⟩ = some (.pointer (some ⟨b, 0, none⟩)) ∧ w'.cell? ⟨Bf, 0, none⟩ = some (.int .i64 n) ∧ w'.cell? ⟨Bb, 0, none⟩ = some (.slice va L.length vc) ∧ w'.cell? ⟨b, 0, none⟩ = some (.map (some m)) ∧ (Instr.lookup 71 (.map (some m)) (.int .i64 n) false).run Try.prog w' = .ok (.pointer (some ⟨t, 0, none⟩)) w')
    (first | exact ⟨cd, cf, cb, c0, hlx⟩ | exact ⟨d2, f2, b2, m2, l2⟩)
    (first | (go_at_call 43; refine HADD.out.mono ?_; rintro r w3 ⟨rfl, rv2, htr2, hro2, hnew2, hk2⟩; have d2 := hk2.cell (b := Bd) (o := 0) (by rintro (e | e); exact hbd e; cases e) (show w2.drew.cell? ⟨Bd, 0, none⟩ = _ from cd); have f2 := hk2.cell (b := Bf) (o := 0) (by rintro (e | e); exact hbf e; cases e) (show w2.drew.cell? ⟨Bf, 0, none⟩ = _ from cf); have b2 := hk2.cell (b := Bb) (o := 0) (by rintro (e | e); exact hbv e; cases e) (show w2.drew.cell? ⟨Bb, 0, none⟩ = _ from cb); have m2 := hk2.cell (b := b) (o := 0) (by rintro (e | e); exact hbb e; cases e) (show w2.drew.cell? ⟨b, 0, none⟩ = _ from c0); have hmw := MapT.of (w' := w3) (HM2.out) (hk2.block m (HM2.out.lt) (by rintro (e | e); exact htm e.symm; cases e)); have l2 := mapT_look hmw HREP.out (goodN_wf hn); rw [upT_same] at l2; have HTR2 := Lib.hid htr2; have HRO2 := Lib.hid hro2; have HNEW2 := Lib.hid hnew2; have HK2 := Lib.hid hk2; have HMW := Lib.hid hmw; clear htr2 hro2 hnew2 hk2 hmw))
   have hbk := HK2.out.block b hlb (by rintro (e | e); exact hbb e; cases e)
   have hb2 := hbk.trans (show w2.drew.heap[b]? = _ from (HKW.out.block b hlb1 HP.out.b_ne_m).trans HPX.out.blk)
   have f1 := blk_soft hb2 1
   have c1 := blk_cell hb2 1
   have hlb2 := lt_of_block hb2
   have hlbd := World.block_lt_of_cell? _ _ d2
   simp at c1
   have HB2 := Lib.hid hb2
   clear hbk hb2 cd cf cb c0 hlx f2 b2 m2 l2
   go_wp2
   go_ret
   have hp := HP.out
   have hafn : (addF D.l n L.flatten).n = n := addF_n _ _ _
   have hset : Keeps (fun k => k = b) w3 (w3.setCell ⟨b, 1, none⟩ (.int .i64 (D.room - sumF D.l - totL L))) := keeps_set _
   have hk3 : Keeps (fun k => k = t) w2 w3 := (Keeps.drew _ w2).then (HK2.out.mono (by rintro k _ (e | e); exact e; cases e))
   have hk13 : Keeps (fun k => k = m) w1 w3 := ((HKX.out.mono (fun _ _ h => h.elim)).then HKW.out).trans hk3 (fun k hk e => by have := HKX.out.size; have := HXT.out; omega)
   have hks : Keeps (Few b m (tb (addF D.l n L.flatten).n) (if (tb (addF D.l n L.flatten).n).isSome then (rv (addF D.l n L.flatten).n).ownBlock else none)) w1 (w3.setCell ⟨b, 1, none⟩ (.int .i64 (D.room - sumF D.l - totL L))) :=
    (hk13.mono fun k _ h => .inr (.inl h)).then (hset.mono fun k _ h => .inl h)
   have hrow2 := HRO2.out.keep hset (fun k hk e => by
    subst e
    rcases HNEW2.out with e2 | e2
    ·rw [e2] at hk; cases hk
    ·have := e2 k hk
     exact absurd this (by show ¬ (w2.heap.size ≤ k); omega))
   have hsz := HKX.out.size
   have hxt := HXT.out
   have hw2 := HKW.out.size
   have hw3 := hk3.size
   refine ⟨rfl, (hk13.mono fun k _ h => by rw [h]; exact hmm).then (hset.mono fun k _ h => by rw [h]; exact hb), m, nn + 1, lf, _, _, _, hp.put (f := addF D.l n L.flatten) (t := t) (v' := rv2) HGOOD.out hks ?_ hp.lfe hp.lfw (HMW.out.of (hset.block m HMW.out.lt (fun e => hp.b_ne_m e.symm))) (by rw [hafn]; exact HREP.out) (.inr ⟨by rw [hafn]; exact HTN.out, by omega, ?_⟩) ?_ ?_ ?_, by simp at hcnt ⊢; omega⟩
   ·rw [HFREE.out]
    exact blk_set (i := 1) HB2.out _
   ·have := lt_of_block HTR2.out
    exact Nat.lt_of_lt_of_le this hset.size
   ·rw [HAF.out]
    exact (hset.block t (lt_of_block HTR2.out) (fun e => hbb e.symm)).trans HTR2.out
   ·rw [HAF.out]
    exact hrow2
   ·refine .inr ?_
    rcases HNEW2.out with h | h
    ·intro k hk; rw [h] at hk; cases hk
    ·intro k hk
     have : w2.heap.size ≤ k := h k hk
     omega
 ·have hs5 : appendK n L.flatten ⟨D.l, D.room, left, false, D.done⟩ = (5, ⟨D.l, D.room, left, false, D.done⟩) := by
   unfold appendK
   rw [if_pos]
   show D.room - (sumF D.l : Int) < (L.flatten.length : Int)
   have : (L.flatten.length : Int) = totL L := rfl
   omega
  rw [hs5]
  have HL2 : Hid (∀ q, Calls Try.prog 42 #[.int .i64 (D.room - sumF D.l), .slice va L.length vc] (w1.drewN q) fun r w' => r = .returned (.tuple #[.int .i64 0, .bool false]) ∧ w' = w1.drewN q) := Lib.hid fun q => by
   have := HLESS.out q
   rw [if_neg hfit, decide_eq_false hfit] at this
   exact this
  clear hs5 HLESS
  go_enter Try.func41, Try.ntmps41
  go_wp2
  go_quiet (first | (go_at_call 42; exact Calls.quiet_of_same (HL2.out _)))
  go_wp2
  go_ret
  exact ⟨rfl, ⟨rfl, rfl, rfl, Nat.le_refl _, fun _ _ _ => rfl⟩, m, nn, lf, M, tb, rv, (HP.out.of (w' := w1.drewN _) (Nat.le_refl _) (fun _ _ => rfl)).wide (fun k h => .inl h) (fun k h => by rcases h with h | h; exact HP.out.slt k h; exact h.2), by simpa using hcnt⟩
theorem eg_append : ∀ args w, (callFunc 41 args).run Try.prog w = .ok (.enter 41 args) w := Go.Proofs.enters_of Try.func41 (by kernel_rfl) rfl
theorem append_any {w : World} {b : Nat} {S T : Nat → Prop} {D : Dm} (n : Int) {v : Value} {L : List (List UInt8)} (h : PAt w b S D) (hd : D.done < 4000000) (hv : Bl w T v L) (hT : ∀ k, T k → ¬ S k ∧ k < w.heap.size) (hL : L.length ≤ 1000000) (hs : totL L ≤ 1000000000000) :
  Calls Try.prog 14 #[.pointer (some ⟨b, 0, none⟩), .int .i64 n, v] w (Done w b S (appendD D n L.flatten)) := by
 have H := Lib.hid h
 have HV := Lib.hid hv
 have HT := Lib.hid hT
 obtain ⟨va, vc, rfl⟩ := hv.form
 clear h hv hT
 go_enter Try.func14, Try.ntmps14
 go_wp2_with fail
 have hk0 : Keeps (fun _ => False) w (((w.alloc (.cells #[.pointer (some ⟨b, 0, none⟩)] 25)).alloc (.cells #[.int .i64 n] 3)).alloc (.cells #[.slice va L.length vc] 32)) := ((Keeps.alloc _ _ _).then (Keeps.alloc _ _ _)).then (Keeps.alloc _ _ _)
 have hx := PAx.keep H.out hk0 (fun _ _ h => h)
 refine (operate_any eg_append hx (counts_append n L.flatten) hd (fun hg => append_does hg hd ?_ ?_ ?_ (fun h => ?_) (fun h => ?_) (fun h => ?_) hx.own (HV.out.keep hk0 (fun _ _ h => h)) (fun k hk => ⟨(HT.out k hk).1, Nat.lt_of_lt_of_le (HT.out k hk).2 hk0.size⟩) hL hs)).mono ?_
 ·have h := heap_alloc_new w (.cells #[.pointer (some ⟨b, 0, none⟩)] 25)
  exact ((Keeps.alloc (fun _ => False) _ _).then (Keeps.alloc _ _ _)).cell (fun h => h) (blk_cell h 0)
 ·have h := heap_alloc_new ((w.alloc (.cells #[.pointer (some ⟨b, 0, none⟩)] 25)).alloc (.cells #[.int .i64 n] 3)) (.cells #[.slice va L.length vc] 32)
  rw [World.size_alloc, World.size_alloc] at h
  exact blk_cell h 0
 ·have h := heap_alloc_new (w.alloc (.cells #[.pointer (some ⟨b, 0, none⟩)] 25)) (.cells #[.int .i64 n] 3)
  rw [World.size_alloc] at h
  exact (Keeps.alloc (fun _ => False) _ _).cell (fun h => h) (blk_cell h 0)
 ·have := H.out.lt _ h; omega
 ·have := H.out.lt _ h; omega
 ·have := H.out.lt _ h; omega
 ·rintro e w' hdn
  clear hx
  have HDN := Lib.hid (Done.behind hk0 hdn)
  clear hdn
  have he := HDN.out.1
  subst he
  go_wp2
  go_ret
  exact HDN.out
end SZ
end Go.Proofs.Ytddbmibfebhmjaa
