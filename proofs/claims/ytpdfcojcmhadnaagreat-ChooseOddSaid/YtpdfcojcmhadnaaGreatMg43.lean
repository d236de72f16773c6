/- The program's Equal of stamps, Same of Deps; whether a shard may be, whether stamps are a list; how many stamps there are. Conditions: lists of at most a million. -/
import Derived.Maps.AppendAt
import Derived.Test.YtpdfcojcmhadnaaGreatMg42
set_option maxRecDepth 100000
set_option maxHeartbeats 16000000
set_option linter.unusedVariables false
namespace Go.Proofs.YtpdfcojcmhadnaaGreat
open S1
namespace SD
open Go.RowKit
def HasG (w : World) (v : Value) (l : List Dp) : Prop := ∀ s ∈ l, IdsAt w s ∧ (s.ids ≠ [] → ∀ p, s.ia = some p → v.ownBlock ≠ some p.block)
theorem HasG.nil (w : World) (v : Value) : HasG w v [] := fun s h => (by cases h)
theorem HasG.later {W wr : World} {v : Value} {l : List Dp} (h : HasG W v l) (hb : Below W.heap.size W wr) : HasG wr v l := fun s hs => ⟨(h s hs).1.later hb, (h s hs).2⟩
theorem idsAt_grown {w w' : World} {v : Value} {s : Dp} (h : IdsAt w s) (hne : s.ids ≠ [] → ∀ p, s.ia = some p → v.ownBlock ≠ some p.block) (hg : w.grownBy w' v.ownBlock) : IdsAt w' s := by
 refine ⟨fun hn => ?_, h.2⟩
 obtain ⟨b, o, ha, hb, hl⟩ := h.1 hn
 have hk := hg.block b hb (fun e => hne hn _ ha e.symm)
 refine ⟨b, o, ha, Nat.lt_of_lt_of_le hb hg.size, fun i x y hi => ?_⟩
 obtain ⟨h1, h2⟩ := hl i x y hi
 exact ⟨(World.cell?_of_block (w := w) hk).trans h1, (World.cell?_of_block (w := w) hk).trans h2⟩
theorem HasG.push {w w' : World} {v v' : Value} {l : List Dp} {m : Dp} (h : HasG w v l) (hm : IdsAt w m) (hmv : m.ids ≠ [] → ∀ p, m.ia = some p → v.ownBlock ≠ some p.block) (hg : w.grownBy w' v.ownBlock) (hv : v'.ownBlock = v.ownBlock ∨ v'.ownBlock = some w.heap.size) : HasG w' v' (l ++ [m]) := by
 have key : ∀ s, IdsAt w s → (s.ids ≠ [] → ∀ p, s.ia = some p → v.ownBlock ≠ some p.block) → IdsAt w' s ∧ (s.ids ≠ [] → ∀ p, s.ia = some p → v'.ownBlock ≠ some p.block) := by
  intro s hs hsv
  refine ⟨idsAt_grown hs hsv hg, fun hn p hp => ?_⟩
  rcases hv with e | e
  ·rw [e]
   exact hsv hn p hp
  ·rw [e]
   obtain ⟨b, o, ha, hb, _⟩ := hs.1 hn
   rw [ha] at hp
   obtain rfl := Option.some.inj hp
   intro e2
   have := Option.some.inj e2
   simp at this
   omega
 intro s hs
 rcases List.mem_append.1 hs with hs | hs
 ·exact key s (h s hs).1 (h s hs).2
 ·rw [List.mem_singleton] at hs
  subst hs
  exact key _ hm hmv

def Bx (w : World) (b : Nat) (sh : Int) (v : Value) : Prop := w.heap[b]? = some (.cells #[.int .i64 sh, v] 51 (0, 0))
theorem Bx.lt {w : World} {b : Nat} {sh : Int} {v : Value} (h : Bx w b sh v) : b < w.heap.size := lt_of_block h
theorem Bx.c0 {w : World} {b : Nat} {sh : Int} {v : Value} (h : Bx w b sh v) : w.cell? ⟨b, 0, none⟩ = some (.int .i64 sh) := by unfold Bx at h; simp only [World.cell?, h]; rfl
theorem Bx.c1 {w : World} {b : Nat} {sh : Int} {v : Value} (h : Bx w b sh v) : w.cell? ⟨b, 1, none⟩ = some v := by unfold Bx at h; simp only [World.cell?, h]; rfl
theorem Bx.f {w : World} {b : Nat} {sh : Int} {v : Value} (h : Bx w b sh v) (i : Nat) : w.frozen? ⟨b, i, none⟩ = false := by unfold Bx at h; simp [World.frozen?, h]
theorem Bx.later {B : Nat} {w wr : World} {b : Nat} {sh : Int} {v : Value} (h : Bx w b sh v) (hw : Below B w wr) (hb : b < B) : Bx wr b sh v := (hw.block b hb).trans h

theorem check_bad {d : Dd} (h1 : d.length ≤ 8) (h2 : idsN d ≤ 512) (h : depsF (-1) d = false) : checkD d = 60 := by
 unfold checkD
 rw [if_neg (by omega), h]
 rfl
theorem check_good {d : Dd} (h1 : d.length ≤ 8) (h2 : idsN d ≤ 512) (h : depsF (-1) d = true) : checkD d = 0 := by
 unfold checkD
 rw [if_neg (by omega), h]
 rfl

theorem equalS_any (a a' : Option Addr) (cap cap' : Nat) (l m : List (Int × Int)) (w : World) (hlen : l.length ≤ 1000000) (hl : SL w a l) (hm : SL w a' m) :
  Calls Tryz.prog 55 #[.slice a l.length cap, .slice a' m.length cap'] w fun e w' => e = .returned (.bool (decide (l = m))) ∧ Below w.heap.size w w' := by
 have HL := Lib.hid hl
 have HM := Lib.hid hm
 clear hl hm
 by_cases hle : l.length = m.length
 ·rw [← hle]
  have HLE := Lib.hid hle
  clear hle
  go_enter Tryz.func55, Tryz.ntmps55
  go_wp2
  go_loopw [13] (fun i wr => ∃ k : Nat, k ≤ l.length ∧ i = .int .i64 k ∧ l.take k = m.take k ∧ Below w.heap.size w wr) (fun i _ => l.length - (RowKit.intOf i).toNat)
  case atStart => exact ⟨0, Nat.zero_le _, rfl, rfl, Below.refl _ _⟩
  case round =>
   obtain ⟨k, hk, rfl, htk, hbel⟩ := hrel
   have HB := Lib.hid hbel
   have HTK := Lib.hid htk
   clear htk
   by_cases hlt : k < l.length
   ·obtain ⟨x, y, hxy⟩ := at_ltS hlt
    obtain ⟨u, v, huv⟩ := at_ltS (l := m) (k := k) (by rw [← HLE.out]; exact hlt)
    obtain ⟨b, o, rfl, hb, hl⟩ := HL.out (by rintro rfl; simp at hlt)
    obtain ⟨b', o', rfl, hb', hl'⟩ := HM.out (by rintro rfl; simp at huv)
    obtain ⟨hx, hy⟩ := hl.later hb HB.out k x y hxy
    obtain ⟨hx', hy'⟩ := hl'.later hb' HB.out k u v huv
    have hbw : b < wr.heap.size := Nat.lt_of_lt_of_le hb HB.out.size
    have hbw' : b' < wr.heap.size := Nat.lt_of_lt_of_le hb' HB.out.size
    have hk1 : (k : Int) < (l.length : Int) := by omega
    have hkm : (k : Int) < (m.length : Int) := by have := HLE.out; omega
    have HXY := Lib.hid hxy
    have HUV := Lib.hid huv
    clear hl hl' hxy huv hbel
    by_cases h1 : x = u
    ·subst h1
     by_cases h2 : y = v
     ·subst h2
      go_wp2_with fail
      refine region_aft (by kernel_rfl) (by kernel_rfl) ?_
      repeat (go_big_quiet_step (fail))
      refine wpQuiet_nil ?_
      rintro w2 ⟨z, rfl⟩
      go_wp2
      go_roundw
      case rel => exact ⟨k + 1, hlt, by go_num, take_eqS HTK.out HXY.out HUV.out, blThen HB.out z.h⟩
      case measure => simp [RowKit.intOf]; omega
     ·have hb2 : ((y == v) = false) := by simpa using h2
      have HNE : Hid (decide (l = m) = false) := decide_eq_false fun e => by
       have h := HXY.out
       rw [e, HUV.out] at h
       simp only [Option.some.injEq, Prod.mk.injEq] at h
       exact h2 h.2.symm
      go_wp2_with fail
      refine region_aft (by kernel_rfl) (by kernel_rfl) ?_
      repeat (go_big_quiet_step (fail))
      refine wpQuiet_nil ?_
      rintro w2 ⟨z, rfl⟩
      go_wp2
      go_ret
      exact ⟨by rw [HNE.out]; rfl, blThen HB.out z.h⟩
    ·have hb1 : ((x == u) = false) := by simpa using h1
     have HNE : Hid (decide (l = m) = false) := decide_eq_false fun e => by
      have h := HXY.out
      rw [e, HUV.out] at h
      simp only [Option.some.injEq, Prod.mk.injEq] at h
      exact h1 h.1.symm
     go_wp2_with fail
     refine region_aft (by kernel_rfl) (by kernel_rfl) ?_
     repeat (go_big_quiet_step (fail))
     refine wpQuiet_nil ?_
     rintro w2 ⟨z, rfl⟩
     go_wp2
     go_ret
     exact ⟨by rw [HNE.out]; rfl, blThen HB.out z.h⟩
   ·have hge : ¬ (k : Int) < (l.length : Int) := by omega
    have HEQ : Hid (decide (l = m) = true) := decide_eq_true (by
     have h := HTK.out
     rwa [List.take_of_length_le (by omega), List.take_of_length_le (by have := HLE.out; omega)] at h)
    go_wp2
    go_ret
    exact ⟨by rw [HEQ.out]; rfl, HB.out⟩
 ·have hne : ¬ (l.length : Int) = (m.length : Int) := by omega
  have HNE : Hid (decide (l = m) = false) := decide_eq_false fun e => hle (by rw [e])
  clear hle
  go_enter Tryz.func55, Tryz.ntmps55
  go_wp2
  go_ret
  exact ⟨by rw [HNE.out]; rfl, Below.refl _ _⟩
end SD
end Go.Proofs.YtpdfcojcmhadnaaGreat
