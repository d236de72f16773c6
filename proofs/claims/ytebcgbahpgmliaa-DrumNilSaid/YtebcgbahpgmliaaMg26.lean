/- live, the closed check that every statement of this stage ends with, returns true. Conditions: none. -/
import Derived.Lib.SlBytesConst
import Derived.Test.YtebcgbahpgmliaaMg25
set_option maxRecDepth 100000
set_option maxHeartbeats 16000000
set_option linter.unusedVariables false
namespace Go.Proofs.Ytebcgbahpgmliaa
open S2
namespace SZ
open Go.RowKit
def Since (x y : World) (k : Nat) : Prop := x.heap.size ≤ k ∧ k < y.heap.size
theorem lists_two (w : World) (a b : UInt8) (p q : Nat × Nat) (X : World) (hX : X = ((w.alloc (.cells #[bv a] 5 p)).alloc (.cells #[bv b] 5 q)).alloc (.cells #[.slice (some ⟨w.heap.size, 0, none⟩) 1 1, .slice (some ⟨w.heap.size + 1, 0, none⟩) 1 1] 39)) :
  Keeps (fun _ => False) w X ∧ Bl X (Since w X) (.slice (some ⟨w.heap.size + 1 + 1, 0, none⟩) 2 2) [[a], [b]] := by
 have h1 := heap_alloc_new w (.cells #[bv a] 5 p)
 have h2 := heap_alloc_new (w.alloc (.cells #[bv a] 5 p)) (.cells #[bv b] 5 q)
 have h3 := heap_alloc_new ((w.alloc (.cells #[bv a] 5 p)).alloc (.cells #[bv b] 5 q)) (.cells #[.slice (some ⟨w.heap.size, 0, none⟩) 1 1, .slice (some ⟨w.heap.size + 1, 0, none⟩) 1 1] 39)
 rw [← hX] at h3
 have k1 : Keeps (fun _ => False) w (w.alloc (.cells #[bv a] 5 p)) := Keeps.alloc _ _ _
 have k2 : Keeps (fun _ => False) (w.alloc (.cells #[bv a] 5 p)) ((w.alloc (.cells #[bv a] 5 p)).alloc (.cells #[bv b] 5 q)) := Keeps.alloc _ _ _
 have k3 : Keeps (fun _ => False) ((w.alloc (.cells #[bv a] 5 p)).alloc (.cells #[bv b] 5 q)) X := by rw [hX]; exact Keeps.alloc _ _ _
 have hs : X.heap.size = w.heap.size + 3 := by rw [hX]; simp
 rw [World.size_alloc] at h2
 rw [World.size_alloc, World.size_alloc] at h3
 have g1 := (k3.block _ (by simp; omega) (fun h => h)).trans ((k2.block _ (by simp) (fun h => h)).trans h1)
 have g2 := (k3.block (w.heap.size + 1) (by simp) (fun h => h)).trans h2
 refine ⟨(k1.then k2).then k3, bl_blk (L := [[a], [b]]) h3 ⟨by omega, by omega⟩ (fun i l hl => ?_) 2⟩
 match i, hl with
 | 0, hl =>
  simp at hl
  subst hl
  exact ⟨w.heap.size, rfl, bs_blk g1 rfl (by simp [maxLen]), by unfold Since; omega⟩
 | 1, hl =>
  simp at hl
  subst hl
  exact ⟨w.heap.size + 1, rfl, bs_blk g2 rfl (by simp [maxLen]), by unfold Since; omega⟩
theorem lists_one (w : World) (l : List UInt8) (C : Array Value) (hC : C.toList = bvs l) (hl : l.length ≤ maxLen) (p : Nat × Nat) (X : World) (hX : X = (w.alloc (.cells C 5 p)).alloc (.cells #[.slice (some ⟨w.heap.size, 0, none⟩) l.length l.length] 39)) :
  Keeps (fun _ => False) w X ∧ Bl X (Since w X) (.slice (some ⟨w.heap.size + 1, 0, none⟩) 1 1) [l] := by
 have h1 := heap_alloc_new w (.cells C 5 p)
 have h2 := heap_alloc_new (w.alloc (.cells C 5 p)) (.cells #[.slice (some ⟨w.heap.size, 0, none⟩) l.length l.length] 39)
 rw [← hX] at h2
 have k1 : Keeps (fun _ => False) w (w.alloc (.cells C 5 p)) := Keeps.alloc _ _ _
 have k2 : Keeps (fun _ => False) (w.alloc (.cells C 5 p)) X := by rw [hX]; exact Keeps.alloc _ _ _
 have hs : X.heap.size = w.heap.size + 2 := by rw [hX]; simp
 rw [World.size_alloc] at h2
 have g1 := (k2.block _ (by simp) (fun h => h)).trans h1
 refine ⟨k1.then k2, bl_blk (L := [l]) h2 ⟨by omega, by omega⟩ (fun i l' hl' => ?_) 1⟩
 match i, hl' with
 | 0, hl' =>
  simp at hl'
  subst hl'
  exact ⟨w.heap.size, rfl, bs_blk g1 hC hl, by unfold Since; omega⟩
theorem tails_one (w : World) (t : Tl) (h1 : (Lit.int .i64 t.file).wf = true) (h2 : (Lit.int .i64 t.keep).wf = true) (X : World) (hX : X = w.alloc (.cells #[.int .i64 t.file, .int .i64 t.keep, bv t.turn] 52)) :
  Keeps (fun _ => False) w X ∧ TlAt X (Since w X) (.slice (some ⟨w.heap.size, 0, none⟩) 1 1) [t] := by
 have g := heap_alloc_new w (.cells #[.int .i64 t.file, .int .i64 t.keep, bv t.turn] 52)
 rw [← hX] at g
 have hs : X.heap.size = w.heap.size + 1 := by rw [hX]; simp
 refine ⟨by rw [hX]; exact Keeps.alloc _ _ _, ⟨fun x hx => ?_, _, 1, rfl, fun _ => ⟨w.heap.size, 0, rfl, ⟨Nat.le_refl _, by omega⟩, by omega, fun i x hx => ?_⟩⟩⟩
 ·simp at hx
  subst hx
  exact ⟨h1, h2⟩
 ·match i, hx with
  | 0, hx =>
   simp at hx
   subst hx
   exact ⟨by rw [blk_cellp g]; rfl, by rw [blk_cellp g]; rfl, by rw [blk_cellp g]; rfl⟩
def dL1 : Dm := ⟨[⟨1, [97, 98], 0⟩], 100, -1, false, 1⟩
def dL2 : Dm := ⟨[⟨1, [97, 98], 2⟩], 100, -1, false, 2⟩
def dL3 : Dm := ⟨[⟨1, [97, 98, 99, 100], 2⟩], 100, -1, false, 3⟩
def dL4 : Dm := ⟨[⟨1, [97, 98, 99], 3⟩], 100, -1, false, 3⟩
def dL5 : Dm := ⟨[⟨1, [97, 98, 99], 3⟩], 100, 0, false, 3⟩
def dL6 : Dm := ⟨[⟨1, [97, 98, 99], 3⟩], 100, 0, true, 3⟩
theorem dL_1 : appendD (newD 100) 1 ([[97], [98]] : List (List UInt8)).flatten = (0, dL1) := by decide +kernel
theorem dL_2 : syncD dL1 1 = (0, dL2) := by decide +kernel
theorem dL_3 : appendD dL2 1 ([[99, 100]] : List (List UInt8)).flatten = (0, dL3) := by decide +kernel
theorem dL_4 : crashD dL3 [⟨1, 1, 0⟩] = dL4 := by decide +kernel
theorem dL_5 : readD dL4 1 = ([97, 98, 99], 0) := by decide +kernel
theorem dL_6 : syncD dL5 1 = (140, dL6) := by decide +kernel
theorem dL_7 : appendD dL6 0 ([] : List (List UInt8)).flatten = (2, dL6) := by decide +kernel
theorem live14_any (w : World) : Calls Try.prog 9 #[] w fun e w' => e = .returned (.bool true) ∧ Below w.heap.size w w' := by
 have kc := fun (w : World) (C : Array Value) (n c : Nat) => Lib.run_convert_bytes_const (P := Try.prog) w 39 5 C n c Try.underlying39 Try.underlying5
 have kc2 := fun (w : World) (o : Obj) (C : Array Value) (n c : Nat) => by have h := kc (w.alloc o) C n c; rw [World.size_alloc] at h; exact h
 go_enter Try.func9, Try.ntmps9
 go_wp2_with (first
  | (go_at_call 11; refine (num14_any _ _).mono ?_; rintro e w' ⟨rfl, rfl⟩)
  | (go_at_call 10; refine (new_good 100 (by decide) (by decide) _).mono ?_; intro e w1 hn; obtain ⟨b, rfl, hb0, hk1, hp1⟩ := Liv.new (Below.refl w.heap.size w) hn; have HL := Lib.hid hp1; clear hb0 hk1 hp1 hn)
  | fail)
 obtain ⟨hk, hbl⟩ := lists_two w' 97 98 (1, 2) (1, 2) _ rfl
 refine (HL.out.keep hk |>.append 1 (by decide) hbl (fun k hk2 => ⟨fun hs => by have := HL.out.lt k hs; have := hk2.1; omega, hk2.2⟩) (by decide) (by decide)).mono ?_
 rw [dL_1]
 rintro e w2 ⟨rfl, hk2, hl2⟩
 obtain ⟨S, hl3⟩ : ∃ S, Liv w _ b S _ := ⟨_, hl2⟩
 replace HL := Lib.hid hl3
 clear hk hbl hk2 hl2 hl3
 go_wp2_with (first | (go_at_call 11; refine (num14_any _ _).mono ?_; rintro e w' ⟨rfl, rfl⟩) | (go_at_call 17; refine (HL.out.sync 1 (by decide)).mono ?_; rw [dL_2]; rintro e w3 ⟨rfl, hk3, hl3⟩; replace HL := Lib.hid hl3; clear hk3 hl3) | fail)
 obtain ⟨hk, hbl⟩ := lists_one w' [99, 100] #[.int .u8 99, .int .u8 100] rfl (by simp [maxLen]) (2, 3) _ rfl
 refine (HL.out.keep hk |>.append 1 (by decide) hbl (fun k hk2 => ⟨fun hs => by have := HL.out.lt k hs; have := hk2.1; omega, hk2.2⟩) (by decide) (by decide)).mono ?_
 rw [dL_3]
 rintro e w4 ⟨rfl, hk2, hl2⟩
 obtain ⟨S, hl3⟩ : ∃ S, Liv w _ b S _ := ⟨_, hl2⟩
 replace HL := Lib.hid hl3
 clear hk hbl hk2 hl2 hl3
 go_wp2_with (first | (go_at_call 11; refine (num14_any _ _).mono ?_; rintro e w' ⟨rfl, rfl⟩) | fail)
 obtain ⟨hk, htl⟩ := tails_one w' ⟨1, 1, 0⟩ (by decide) (by decide) _ rfl
 refine (HL.out.keep hk |>.crashes htl (fun k hk2 => hk2.2) (by decide)).mono ?_
 rw [dL_4]
 rintro e w5 ⟨rfl, hk2, hl2⟩
 obtain ⟨S, hl3⟩ : ∃ S, Liv w _ b S _ := ⟨_, hl2⟩
 replace HL := Lib.hid hl3
 clear hk htl hk2 hl2 hl3
 go_wp2_with (first
  | (go_at_call 25; refine (HL.out.read 1).mono ?_; rw [dL_5]; rintro e w6 ⟨v6, g6, rfl, h1, h2, h3⟩; obtain ⟨va, vc, rfl⟩ := row_slice h1; obtain ⟨gx, hst, hgx⟩ := row_new h1 h2; have HG : Hid (∀ k, ([97, 98, 99] : List UInt8) ≠ [] → S k → gx ≠ k) := Lib.hid (fun k hne hs e => by have := hgx hne; have := HL.out.lt k hs; omega); replace HL := Lib.hid (HL.out.keep h3); have HST := Lib.hid hst; clear h1 h2 h3 hst hgx)
  | fail)
 refine (HL.out.arm (n := 0) (by decide)).mono ?_
 rintro e w7 ⟨rfl, hk7, hl7⟩
 rw [show armD dL4 0 = dL5 from rfl] at hl7
 have hst := HST.out.keep hk7 (fun hne hs => ?hs)
 case hs => exact HG.out _ hne hs rfl
 have hstr : (convert 39 9 (.slice va 3 vc)).run Try.prog w7 = .ok (.string { data := #[97, 98, 99] }) w7 := Bs.str hst
 obtain ⟨S7, hl7'⟩ : ∃ S, Liv w w7 b S dL5 := ⟨_, hl7⟩
 replace HL := Lib.hid hl7'
 clear hk7 hl7 hl7' hst HG HST
 have hbn := fun (x : World) (S : Nat → Prop) (h : Liv w x b S dL6) => h.append 0 (by decide) (bl_nil x (fun _ => False)) (fun k hk => hk.elim) (by decide) (by decide)
 rw [dL_7] at hbn
 have HBN := Lib.hid hbn
 clear hbn
 go_wp2_with (first
  | (go_at_call 11; refine (num14_any _ _).mono ?_; rintro e w' ⟨rfl, rfl⟩)
  | (go_at_call 17; refine (HL.out.sync 1 (by decide)).mono ?_; rw [dL_6]; rintro e w8 ⟨rfl, hk8, hl8⟩; obtain ⟨S8, hl8'⟩ : ∃ S, Liv w w8 b S dL6 := ⟨_, hl8⟩; have HL8 := Lib.hid hl8'; clear hk8 hl8 hl8' hstr)
  | (go_at_call 28; refine HL8.out.dead.mono ?_; rw [show dL6.off = true from rfl]; rintro e w' ⟨rfl, rfl⟩)
  | (go_at_call 29; refine HL8.out.ops.mono ?_; rw [show dL6.done = 3 from rfl]; rintro e w' ⟨rfl, rfl⟩)
  | (go_at_call 27; refine HL8.out.free.mono ?_; rw [show dL6.free = 97 from by decide +kernel]; rintro e w' ⟨rfl, rfl⟩)
  | (go_at_call 14; refine (HBN.out _ _ HL8.out).mono ?_; rintro e w9 ⟨rfl, hk9, hl9⟩; have HL9 := Lib.hid hl9; clear hk9 hl9)
  | fail)
 go_ret
 exact ⟨rfl, HL9.out.bel⟩
end SZ
end Go.Proofs.Ytebcgbahpgmliaa
