/- DrumSafe: what was synced is there behind every crash. Conditions: none. -/
import Derived.Test.YtebcgbahpgmliaaMg25
import Derived.Test.YtebcgbahpgmliaaMg09
set_option maxRecDepth 100000
set_option maxHeartbeats 16000000
set_option linter.unusedVariables false
namespace Go.Proofs.Ytebcgbahpgmliaa
open S2
namespace SZ
open Go.ChangeShapes Go.WideShapes Go.ChangeAt Go.RowKit
def dS (b : List UInt8) (s : Nat) (k : Nat) : Dm := ⟨[⟨1, b, s⟩], 40000, -1, false, k⟩
theorem dS_1 (a : List UInt8) (h : a.length ≤ 20000) : appendD (newD 40000) 1 ([a] : List (List UInt8)).flatten = (0, dS a 0 1) := by
 have e : ([a] : List (List UInt8)).flatten = a := by simp
 rw [e]
 unfold appendD opD
 rw [if_neg (by decide), if_neg (by rintro (h | h) <;> cases h), if_neg (by decide)]
 unfold appendK
 rw [if_neg]
 ·rfl
 ·show ¬ ((40000 : Int) - ((0 : Nat) : Int) < _)
  omega
theorem dS_2 (a : List UInt8) : syncD (dS a 0 1) 1 = (0, dS a a.length 2) := by
 unfold syncD opD
 rw [if_neg (by decide), if_neg (by rintro (h | h) <;> cases h), if_neg (show ¬ ((0 : Int) < (dS a 0 1).left) from by show ¬ ((0 : Int) < -1); decide)]
 rfl
theorem dS_3 (a b : List UInt8) (h : a.length + b.length ≤ 20000) : appendD (dS a a.length 2) 1 ([b] : List (List UInt8)).flatten = (0, dS (a ++ b) a.length 3) := by
 have e : ([b] : List (List UInt8)).flatten = b := by simp
 rw [e]
 unfold appendD opD
 rw [if_neg (by decide), if_neg (by rintro (h | h) <;> cases h), if_neg (show ¬ ((0 : Int) < (dS a a.length 2).left) from by show ¬ ((0 : Int) < -1); decide)]
 unfold appendK
 rw [if_neg]
 ·rfl
 ·show ¬ ((40000 : Int) - ((a.length + 0 : Nat) : Int) < _)
  omega
def kS (b : List UInt8) (keep : Int) : Nat := (min (max keep 0) (b.length : Int)).toNat
def wS (a b : List UInt8) (keep : Int) (turn : UInt8) : List UInt8 := if 0 < kS b keep then turnB (a ++ b.take (kS b keep)) turn else a
theorem kS_le (b : List UInt8) (keep : Int) : kS b keep ≤ b.length := by unfold kS; omega
theorem wS_len (a b : List UInt8) (keep : Int) (turn : UInt8) : (wS a b keep turn).length = a.length + kS b keep := by
 have := kS_le b keep
 unfold wS
 split
 ·rw [turnB_length, List.length_append, List.length_take]
  omega
 ·omega
theorem dS_4 (a b : List UInt8) (keep : Int) (turn : UInt8) (other : Int) (h : other ≠ 1) : crashD (dS (a ++ b) a.length 3) [⟨other, 5, 0⟩, ⟨1, keep, turn⟩, ⟨1, 0, 0⟩] = dS (wS a b keep turn) (a.length + kS b keep) 3 := by
 unfold crashD dS
 have ht : tailF [⟨other, 5, 0⟩, ⟨1, keep, turn⟩, ⟨1, 0, 0⟩] 1 = ⟨1, keep, turn⟩ := by
  unfold tailF
  rw [List.find?_cons]
  have h2 : ((other == 1) : Bool) = false := by simpa using h
  rw [h2]
  rfl
 simp only [List.map_cons, List.map_nil]
 rw [ht]
 have hk : keepF ⟨1, a ++ b, a.length⟩ ⟨1, keep, turn⟩ = kS b keep := by
  unfold keepF kS
  simp only [List.length_append]
  congr 2
  omega
 unfold cutF
 rw [hk]
 have e1 : (a ++ b).take (a.length + kS b keep) = a ++ b.take (kS b keep) := by
  rw [List.take_append, List.take_of_length_le (by omega)]
  congr 2
  omega
 have e2 : (a ++ b).take a.length = a := List.take_left
 simp only [e1, e2]
 rfl
theorem dS_5 (W : List UInt8) (s : Nat) (h : W.length = s) : crashD (dS W s 3) [] = dS W s 3 := by
 unfold crashD dS
 simp only [List.map_cons, List.map_nil]
 have hk : keepF ⟨1, W, s⟩ (tailF [] 1) = 0 := by
  unfold keepF
  rw [h]
  have e : (tailF [] 1).keep = 0 := rfl
  rw [e]
  simp
 unfold cutF
 rw [hk]
 simp only [Nat.lt_irrefl, if_false, Nat.add_zero]
 rw [List.take_of_length_le (by omega)]
theorem dS_6 (W : List UInt8) (s : Nat) : readD (dS W s 3) 1 = (W, 0) := rfl
theorem slice_bw {w : World} {g : Nat} {a : Option Addr} {n c : Nat} {l : List UInt8} (h : Bw w g (.slice a n c) l) {k : Nat} (hk : k ≤ l.length) (hc : k ≤ c) :
  (∀ W : World, (Instr.slice 39 (.slice a n c) none (some (.int .i64 (k : Int))) none).run Try.prog W = .ok (.slice a k c) W) ∧ Bw w g (.slice a k c) (l.take k) := by
 obtain ⟨a', c', hv, h0, h1, h2⟩ := h
 simp only [Value.slice.injEq] at hv
 obtain ⟨rfl, rfl, rfl⟩ := hv
 refine ⟨fun W => ?_, ⟨a, c, by rw [List.length_take, Nat.min_eq_left hk], fun ha => ?_, by rw [List.length_take]; omega, fun hne => ?_⟩⟩
 ·cases a with
  | none =>
   obtain ⟨hl, hcc⟩ := h0 rfl
   subst hl hcc
   have hk0 : k = 0 := by simpa using hk
   subst hk0
   simp [Instr.slice, Instr.sliceBounds, Instr.sliceBound, asIntOf, run_underlying Try.underlying39]
  | some a =>
   have e : a.add 0 = a := by unfold Addr.add; split <;> simp_all
   simp [Instr.slice, Instr.sliceBounds, Instr.sliceBound, asIntOf, run_underlying Try.underlying39, hc, e]
 ·obtain ⟨hl, hcc⟩ := h0 ha
  subst hl
  exact ⟨by simp, hcc⟩
 ·have hne2 : l ≠ [] := by rintro rfl; simp at hne
  obtain ⟨o, ha, hx⟩ := h2 hne2
  refine ⟨o, ha, fun j x hj => hx j x ?_⟩
  rw [List.getElem?_take] at hj
  split at hj
  ·exact hj
  ·cases hj
theorem step_app {ops : Array Oper} {o : Oper} {a : Act} {w : World} {K : Act → World → Prop} {Q : Exit → Act → World → Prop} {E : Prop} (hg : o.guard = none) (s x : Operand) (tx : TypeId)
  (ho : o.op = .call { callee := .builtin .append, args := #[s, x], argTypes := #[39, tx] }) {g : Option Nat} {v xv : Value} {l m : List UInt8} (hs : a.eval s = v) (hx : a.eval x = xv)
  (hrow : Row w g v l) (hsrc : Src Try.prog 1 tx xv m.length (bvs m) w) (hlen : l.length + m.length ≤ 1099511627776)
  (h : ∀ v' w' g', Row w' g' v' (l ++ m) → w.grownBy w' g → (g' = g ∨ New w g') → K (a.put o.dst v') w') :
  if Region.wanted o (yielded ops a.tmps) = true then Oper.wp Try.prog o a w K Q else E := by
 have hw : Region.wanted o (yielded ops a.tmps) = true := by simp [Region.wanted, hg]
 rw [if_pos hw]
 obtain ⟨v', w', g', hr, h1, h2, h3⟩ := app_run hrow hsrc hlen o.type
 unfold Oper.wp execOp
 simp only [ho, resolve, invoke, builtin, Sem.run_bind, Sem.run_pure, Result.andThen_ok, List.map_toArray, List.map_cons, List.map_nil, hs, hx, hr]
 exact h v' w' g' h1 h2 h3
theorem tails_three (w : World) (t1 t2 t3 : Tl) (hw : ∀ t ∈ [t1, t2, t3], (Lit.int .i64 t.file).wf = true ∧ (Lit.int .i64 t.keep).wf = true) (X : World) (hX : X = w.alloc (.cells #[.int .i64 t1.file, .int .i64 t1.keep, bv t1.turn, .int .i64 t2.file, .int .i64 t2.keep, bv t2.turn, .int .i64 t3.file, .int .i64 t3.keep, bv t3.turn] 52)) :
  Keeps (fun _ => False) w X ∧ TlAt X (Since w X) (.slice (some ⟨w.heap.size, 0, none⟩) 3 3) [t1, t2, t3] := by
 have g := heap_alloc_new w (.cells #[.int .i64 t1.file, .int .i64 t1.keep, bv t1.turn, .int .i64 t2.file, .int .i64 t2.keep, bv t2.turn, .int .i64 t3.file, .int .i64 t3.keep, bv t3.turn] 52)
 rw [← hX] at g
 have hs : X.heap.size = w.heap.size + 1 := by rw [hX]; simp
 refine ⟨by rw [hX]; exact Keeps.alloc _ _ _, ⟨hw, _, 3, rfl, fun _ => ⟨w.heap.size, 0, rfl, ⟨Nat.le_refl _, by omega⟩, by omega, fun i x hx => ?_⟩⟩⟩
 match i, hx with
 | 0, hx =>
  simp at hx
  subst hx
  exact ⟨by rw [blk_cellp g]; rfl, by rw [blk_cellp g]; rfl, by rw [blk_cellp g]; rfl⟩
 | 1, hx =>
  simp at hx
  subst hx
  exact ⟨by rw [blk_cellp g]; rfl, by rw [blk_cellp g]; rfl, by rw [blk_cellp g]; rfl⟩
 | 2, hx =>
  simp at hx
  subst hx
  exact ⟨by rw [blk_cellp g]; rfl, by rw [blk_cellp g]; rfl, by rw [blk_cellp g]; rfl⟩
theorem tl_nil (w : World) (T : Nat → Prop) : TlAt w T (.slice none 0 0) [] := ⟨(fun t h => by cases h), none, 0, rfl, fun h => absurd rfl h⟩
theorem bl_bw (w : World) {g : Nat} {a : Option Addr} {n c : Nat} {l : List UInt8} (h : Bw w g (.slice a n c) l) (hg : l ≠ [] → g < w.heap.size) (X : World) (hX : X = w.alloc (.cells #[.slice a n c] 39)) :
  Keeps (fun _ => False) w X ∧ Bl X (fun k => Since w X k ∨ l ≠ [] ∧ k = g) (.slice (some ⟨w.heap.size, 0, none⟩) 1 1) [l] := by
 have hb := heap_alloc_new w (.cells #[.slice a n c] 39)
 rw [← hX] at hb
 have hk : Keeps (fun _ => False) w X := by rw [hX]; exact Keeps.alloc _ _ _
 have hs : X.heap.size = w.heap.size + 1 := by rw [hX]; simp
 have hn : n = l.length := by
  obtain ⟨a', c', hv, _⟩ := h
  simp only [Value.slice.injEq] at hv
  exact hv.2.1
 refine ⟨hk, ⟨_, 1, rfl, fun _ => ⟨w.heap.size, 0, rfl, .inl ⟨Nat.le_refl _, by omega⟩, by omega, fun i x hx => ?_⟩⟩⟩
 match i, hx with
 | 0, hx =>
  simp at hx
  subst hx
  exact ⟨a, c, g, by rw [blk_cellp hb, ← hn]; rfl, by rw [← hn]; exact h.keep hk (fun _ h => h), fun hne => .inr ⟨hne, rfl⟩⟩
theorem drumSafe_walk (ga gb : Nat) (va vb : Value) (a b : List UInt8) (keep : Int) (turn : UInt8) (other : Int) (w : World) (ha : Bw w ga va a) (hb : Bw w gb vb b) (hga : a ≠ [] → ga < w.heap.size) (hgb : b ≠ [] → gb < w.heap.size) (hra : a.length ≤ 140737488355328) (hrb : b.length ≤ 140737488355328)
  (hwk : (Lit.int .i64 keep).wf = true) (hwo : (Lit.int .i64 other).wf = true) (hcap : ∀ x n c, vb = .slice x n c → x ≠ none → n ≤ c) :
  Calls Try.prog 4 #[va, vb, .int .i64 keep, bv turn, .int .i64 other] w fun e w' => e = .returned (.bool true) ∧ Below w.heap.size w w' := by
 have hlive := fun W => live14_any W
 have HLIVE := Lib.hid hlive
 clear hlive
 obtain ⟨aa, ca, rfl, ha0, ha1, ha2⟩ := id ha
 obtain ⟨ab, cb, rfl, hb0, hb1, hb2⟩ := id hb
 have hcb : b.length ≤ cb := by
  by_cases hn : ab = none
  ·rw [(hb0 hn).1]; exact Nat.zero_le _
  ·exact hcap _ _ _ rfl hn
 clear ha0 ha1 ha2 hb0 hb1 hb2 hcap
 have hsum : wrap64 ((a.length : Int) + (b.length : Int)) = (a.length : Int) + (b.length : Int) := by unfold wrap64; omega
 have HA := Lib.hid ha
 have HB := Lib.hid hb
 clear ha hb
 by_cases h1 : (20000 : Int) < (a.length : Int) + (b.length : Int)
 ·go_enter Try.func4, Try.ntmps4
  go_wp2_with (go_at_call 9; refine (HLIVE.out _).mono ?_; rintro e w1 ⟨rfl, hb⟩; have HB := Lib.hid hb; clear hb)
  go_ret
  exact ⟨rfl, HB.out⟩
 by_cases h2 : other = 1
 ·subst h2
  go_enter Try.func4, Try.ntmps4
  go_wp2_with (go_at_call 9; refine (HLIVE.out _).mono ?_; rintro e w1 ⟨rfl, hb⟩; have HB := Lib.hid hb; clear hb)
  go_ret
  exact ⟨rfl, HB.out⟩
 have hod : (other == 1) = false := by simpa using h2
 have H2 := Lib.hid h2
 have hlen : a.length + b.length ≤ 20000 := by omega
 clear h2
 go_enter Try.func4, Try.ntmps4
 unfold bv
 go_wp2_with (first
  | (go_at_call 11; refine (num14_any _ _).mono ?_; rintro e w' ⟨rfl, rfl⟩)
  | (go_at_call 10; refine (new_good 40000 (by decide) (by decide) _).mono ?_; intro e w1 hn; obtain ⟨d, rfl, hb0, hk1, hp1⟩ := Liv.new (Below.refl w.heap.size w) hn; have HL := Lib.hid hp1; clear hb0 hk1 hp1 hn)
  | fail)
 have hw0 := HL.out.bel.size
 obtain ⟨hk, hbl⟩ := bl_bw w' (HA.out.keep (Keeps.ofBelow (S := fun _ => False) HL.out.bel) (fun _ h => h)) (fun hne => Nat.lt_of_lt_of_le (hga hne) hw0) _ rfl
 refine (HL.out.keep hk |>.append 1 (by decide) hbl (fun k hk2 => ?hT) (by simp) (by unfold totL; simp; omega)).mono ?_
 case hT =>
  rcases hk2 with h | ⟨hne, h⟩
  ·exact ⟨fun hs => by have := HL.out.lt k hs; have := h.1; omega, h.2⟩
  ·have h3 := hga hne
   exact ⟨fun hs => by have := HL.out.own k hs; omega, by rw [h]; exact Nat.lt_of_lt_of_le h3 (Nat.le_trans hw0 hk.size)⟩
 rw [dS_1 a (by omega)]
 rintro e w2 ⟨rfl, hk2, hl2⟩
 obtain ⟨S2, hl3⟩ : ∃ S, Liv w w2 d S (dS a 0 1) := ⟨_, hl2⟩
 replace HL := Lib.hid hl3
 clear hk hbl hk2 hl2 hl3 hw0
 have hsy := fun (x : World) (S : Nat → Prop) (h : Liv w x d S (dS a 0 1)) => h.sync 1 (by show 1 < 4000000; decide)
 rw [dS_2] at hsy
 have HSY := Lib.hid hsy
 clear hsy
 go_wp2_with (first | (go_at_call 11; refine (num14_any _ _).mono ?_; rintro e w' ⟨rfl, rfl⟩) | (go_at_call 17; refine (HSY.out _ _ HL.out).mono ?_; rintro e w3 ⟨rfl, hk3, hl3⟩; obtain ⟨S3, hl4⟩ : ∃ S, Liv w w3 d S (dS a a.length 2) := ⟨_, hl3⟩; replace HL := Lib.hid hl4; clear hk3 hl3 hl4) | fail)
 have hw0 := HL.out.bel.size
 obtain ⟨hk, hbl⟩ := bl_bw w' (HB.out.keep (Keeps.ofBelow (S := fun _ => False) HL.out.bel) (fun _ h => h)) (fun hne => Nat.lt_of_lt_of_le (hgb hne) hw0) _ rfl
 refine (HL.out.keep hk |>.append 1 (by show 2 < 4000000; decide) hbl (fun k hk2 => ?hT) (by simp) (by unfold totL; simp; omega)).mono ?_
 case hT =>
  rcases hk2 with h | ⟨hne, h⟩
  ·exact ⟨fun hs => by have := HL.out.lt k hs; have := h.1; omega, h.2⟩
  ·have h3 := hgb hne
   exact ⟨fun hs => by have := HL.out.own k hs; omega, by rw [h]; exact Nat.lt_of_lt_of_le h3 (Nat.le_trans hw0 hk.size)⟩
 rw [dS_3 a b hlen]
 rintro e w4 ⟨rfl, hk2, hl2⟩
 obtain ⟨S4, hl3⟩ : ∃ S, Liv w w4 d S (dS (a ++ b) a.length 3) := ⟨_, hl2⟩
 replace HL := Lib.hid hl3
 clear hk hbl hk2 hl2 hl3 hw0 HSY
 go_wp2_with (first | (go_at_call 11; refine (num14_any _ _).mono ?_; rintro e w' ⟨rfl, rfl⟩) | fail)
 obtain ⟨hk, htl⟩ := tails_three w' ⟨other, 5, 0⟩ ⟨1, keep, turn⟩ ⟨1, 0, 0⟩ (by
  intro t ht
  simp only [List.mem_cons, List.not_mem_nil, or_false] at ht
  rcases ht with rfl | rfl | rfl
  ·exact ⟨hwo, show (Lit.int .i64 5).wf = true by decide⟩
  ·exact ⟨show (Lit.int .i64 1).wf = true by decide, hwk⟩
  ·exact ⟨show (Lit.int .i64 1).wf = true by decide, show (Lit.int .i64 0).wf = true by decide⟩) _ rfl
 refine (HL.out.keep hk |>.crashes htl (fun k hk2 => hk2.2) (by simp)).mono ?_
 rw [dS_4 a b keep turn other H2.out]
 rintro e w5 ⟨rfl, hk2, hl2⟩
 obtain ⟨S5, hl3⟩ : ∃ S, Liv w w5 d S (dS (wS a b keep turn) (a.length + kS b keep) 3) := ⟨_, hl2⟩
 replace HL := Lib.hid hl3
 clear hk htl hk2 hl2 hl3
 obtain ⟨K, hK⟩ : ∃ K : Nat, K = kS b keep := ⟨_, rfl⟩
 have hKl : K ≤ b.length := by rw [hK]; exact kS_le b keep
 have hkk : max (0 : Int) (min keep (b.length : Int)) = (K : Int) := by rw [hK]; unfold kS; omega
 obtain ⟨W0, hW0⟩ : ∃ W0, W0 = wS a b keep turn := ⟨_, rfl⟩
 have hWl : W0.length = a.length + K := by rw [hW0, hK]; exact wS_len a b keep turn
 have hWs : W0 = if 0 < K then turnB (a ++ b.take K) turn else a := by rw [hW0, hK]; rfl
 have hl5 := HL.out
 rw [← hW0, ← hK] at hl5
 replace HL := Lib.hid hl5
 have hkw : Keeps (fun _ => False) w w5 := Keeps.ofBelow hl5.bel
 have HA5 := Lib.hid (HA.out.keep hkw (fun _ h => h))
 have HB5 := Lib.hid (HB.out.keep hkw (fun _ h => h))
 obtain ⟨hsl, hbk⟩ := slice_bw HB5.out hKl (by omega)
 have HBK := Lib.hid hbk
 have HWS := Lib.hid hWs
 have HWL := Lib.hid hWl
 clear hK hW0 hWs hWl hl5 hkw hbk
 go_wp2
 have hs1 : a.length + (b.take K).length ≤ 1099511627776 := by rw [List.length_take]; omega
 have hs0 : ([] : List UInt8).length + a.length ≤ 1099511627776 := by simp; omega
 have HS0 := Lib.hid hs0
 have HS1 := Lib.hid hs1
 clear hs0 hs1
 obtain ⟨Q, hQ⟩ : ∃ Q, Q = a.length + K := ⟨_, rfl⟩
 obtain ⟨L2, hL2⟩ : ∃ L2, L2 = a ++ b.take K := ⟨_, rfl⟩
 have hQ2 : Q ≤ 20000 := by omega
 have hla : L2.length = Q := by rw [hL2, List.length_append, List.length_take]; omega
 have HLA := Lib.hid hla
 have HL2 := Lib.hid hL2
 have HQ := Lib.hid hQ
 have hwl2 := HWL.out
 rw [← hQ] at hwl2
 have HWQ := Lib.hid hwl2
 have hlz := HL.out
 rw [← hQ] at hlz
 replace HL := Lib.hid hlz
 have hrd := fun (x : World) (S : Nat → Prop) (h : Liv w x d S (dS W0 Q 3)) => h.read 1
 rw [dS_6] at hrd
 have HRD := Lib.hid hrd
 have HLS := Lib.hid HL.out.lt
 clear hla hL2 hQ hwl2 hlz hrd
 by_cases h0 : 0 < K
 ·have hd0 : decide ((0 : Int) < (K : Int)) = true := decide_eq_true (by omega)
  have hd1 : (0 : Int) < (K : Int) := by omega
  go_region_law (first
   | (refine step_app rfl (.tmp 77) (.tmp 78) 39 rfl (by simp [Act.eval]) (by simp [Act.eval]) ((row_empty w5).keep (Keeps.drew (fun _ => False) _) (fun _ _ h => h)) (Bw.src (HA5.out.keep (S := fun _ => False) ((Keeps.alloc _ _ _).then (Keeps.drew _ _)) (fun _ h => h))) HS0.out ?_; intro v1 w6 g1 hr1 hg1 hn1; rw [List.nil_append] at hr1; have hk6 : Keeps (fun _ => False) w5 w6 := ((Keeps.alloc _ w5 _).then (Keeps.drew _ _)).trans (Keeps.grown hg1 (S := fun k => k = w5.heap.size) (fun k _ e => by simpa using e.symm)) (fun k hk e => by omega); have hg1w : ∀ k, g1 = some k → w5.heap.size ≤ k := (fun k e => by rcases hn1 with h | h; (rw [h] at e; cases e; exact Nat.le_refl _); (have := h k e; simp at this; omega)); obtain ⟨a1, c1, rfl⟩ := row_slice hr1; have HR1 := Lib.hid hr1; have HK6 := Lib.hid hk6; have HG1 := Lib.hid hg1w; clear hr1 hg1 hn1 hk6 hg1w)
   | (refine step_app rfl (.tmp 79) (.tmp 82) 39 rfl (by simp [Act.eval]) (by simp [Act.eval]) HR1.out (Bw.src (HBK.out.keep HK6.out (fun _ h => h))) HS1.out ?_; intro v2 w7 g2 hr2 hg2 hn2; have hk7 : Keeps (fun _ => False) w5 w7 := HK6.out.trans (Keeps.grown hg2 (S := fun k => g1 = some k) (fun k _ e => e)) (fun k hk e => by have := HG1.out k e; omega); have hg2w : ∀ k, g2 = some k → w5.heap.size ≤ k := (fun k e => by rcases hn2 with h | h; (rw [h] at e; exact HG1.out k e); (exact Nat.le_trans HK6.out.size (h k e))); rw [← HL2.out] at hr2; obtain ⟨a2, c2, hv2⟩ := row_slice hr2; rw [HLA.out] at hv2; subst hv2; have HR2 := Lib.hid hr2; have HG2 := Lib.hid hg2w; have HL7 := Lib.hid (HL.out.keep hk7); clear hr2 hg2 hn2 hk7 hg2w))
  all_goals
   have hp2 : (0 : Int) < (Q : Int) := by have := HQ.out; omega
   have hne2 : L2 ≠ [] := by intro h; have e := HLA.out; rw [h] at e; simp at e; omega
   obtain ⟨g3, c3, cur3, hv3, hg3, hcur3, hlc3, _⟩ := row_block HR2.out hne2
   rw [HLA.out] at hv3
   simp only [Value.slice.injEq] at hv3
   obtain ⟨hva2, _, hvc2⟩ := hv3
   subst hva2 hg3
   obtain ⟨b0, hb0⟩ := get_lt14 (l := L2) (k := Q - 1) (by have := HLA.out; omega)
   have hcb0 : w7.cell? ⟨g3, Q - 1, none⟩ = some (.int .u8 (b0.toNat : Int)) := by
    rcases HR2.out.bs with ⟨h1, _⟩ | ⟨o, cap, h1, _, _, h2⟩
    ·cases h1
    ·simp only [Value.slice.injEq, Option.some.injEq, Addr.mk.injEq] at h1
     obtain ⟨⟨h3, h4, _⟩, _⟩ := h1
     have := h2 (Q - 1) b0 hb0
     rw [← h4] at this
     simpa [bv] using this
   have hfb : w7.frozen? ⟨g3, Q - 1, none⟩ = false := blk_soft (by rw [hcur3]) _
   have hgq : g3 < w7.heap.size := lt_of_block hcur3
   have hm1 : IntKind.i64.wrap ((Q : Int) - 1) = ((Q - 1 : Nat) : Int) := by rw [IntKind.wrap_i64]; omega
   have hm2 : wrap64 ((Q : Int) - 1) = ((Q - 1 : Nat) : Int) := by unfold wrap64; omega
   have hm3 : (0 : Int) ≤ ((Q - 1 : Nat) : Int) := Int.natCast_nonneg _
   have hm4 : ((Q - 1 : Nat) : Int) < (Q : Int) := by omega
   have HB0 := Lib.hid hb0
   clear hb0 hcur3 hne2 hvc2 hlc3
   go_wp2_with fail
   have hx1 := xor_byte b0 turn
   rw [hx1]
   have hyk : Keeps (fun k => k = g3) w7 (w7.setCell ⟨g3, Q - 1, none⟩ (bv (b0 ^^^ turn))) := keeps_set _
   have hrz : Row (w7.setCell ⟨g3, Q - 1, none⟩ (bv (b0 ^^^ turn))) (some g3) (.slice (some ⟨g3, 0, none⟩) Q c2) (L2.set (Q - 1) (b0 ^^^ turn)) := row_set HR2.out (by have := HLA.out; omega) _
   have hw : L2.set (Q - 1) (b0 ^^^ turn) = W0 := by
    have e := HB0.out
    rw [HWS.out, if_pos h0, ← HL2.out]
    rw [← HLA.out] at e ⊢
    exact (turnB_set e _).symm
   rw [hw] at hrz
   have hgS : ∀ k, S5 k → ¬ (k = g3) := fun k hs e => by have := HLS.out k hs; have := HG2.out g3 rfl; omega
   have hw5 := HL.out.bel.size
   replace HL := Lib.hid (HL7.out.away hyk hgS (fun k e => by have := HG2.out g3 rfl; omega))
   have HWB := Lib.hid hrz.bs
   have HGW : Hid (∀ k, S5 k → g3 ≠ k) := Lib.hid fun k hs e => hgS k hs e.symm
   simp only [Option.getD_some] at HWB
   clear hx1 hyk hrz hw hgS hw5 hcb0 hfb hgq hm1 hm2 hm3 hm4 HL7
   generalize w7.setCell ⟨g3, Q - 1, none⟩ (bv (b0 ^^^ turn)) = w7b at *
   have hgw := HGW.out
   refine (HRD.out _ _ HL.out).mono ?_
   rintro e w8 ⟨x8, g8, rfl, m1, m2, m3⟩
   obtain ⟨gx, hxb, hgx⟩ := row_new m1 m2
   obtain ⟨xa, xc, hx8⟩ := row_slice m1
   rw [HWQ.out] at hx8
   subst hx8
   have hxS : ∀ k, W0 ≠ [] → S5 k → gx ≠ k := fun k hne hs e => by have := HL.out.lt k hs; have := hgx hne; omega
   have HWB8 := Lib.hid (HWB.out.keep m3 (fun _ h => h))
   have HXB := Lib.hid hxb
   replace HL := Lib.hid (HL.out.keep m3)
   clear m1 m2 m3 hxb hgx HWB
   have hcr := fun (x : World) (S : Nat → Prop) (h : Liv w x d S (dS W0 Q 3)) => h.crashes (tl_nil x (fun _ => False)) (fun _ h => h.elim) (by simp)
   rw [dS_5 W0 Q HWQ.out] at hcr
   have HCR := Lib.hid hcr
   clear hcr
   go_wp2_with fail
   refine (HCR.out _ _ HL.out).mono ?_
   rintro e w9 ⟨rfl, hk9, hl9⟩
   have HWB9 := Lib.hid (HWB8.out.keep hk9 (fun hne hs => hgw _ hs rfl))
   have HXB9 := Lib.hid (HXB.out.keep hk9 (fun hne hs => hxS _ hne hs rfl))
   replace HL := Lib.hid hl9
   clear hk9 hl9 HWB8 HXB hxS hgw
   go_wp2_with fail
   refine (HRD.out _ _ HL.out).mono ?_
   rintro e w10 ⟨y10, g10, rfl, m1, m2, m3⟩
   obtain ⟨ya, yc, hy10⟩ := row_slice m1
   have hys := Bs.str m1.bs
   rw [HWQ.out] at hy10
   subst hy10
   have hws := Bs.str (HWB9.out.keep m3 (fun _ h => h))
   have hxs := Bs.str (HXB9.out.keep m3 (fun _ h => h))
   replace HL := Lib.hid (HL.out.keep m3)
   clear m1 m2 m3 HWB9 HXB9
   go_wp2_with (first
    | (go_at_call 11; refine (num14_any _ _).mono ?_; rintro e w' ⟨rfl, rfl⟩)
    | (go_at_call 9; refine (HLIVE.out _).mono ?_; rintro e w11 ⟨rfl, hb⟩; have HBB := Lib.hid (HL.out.bel.trans (hb.mono HL.out.bel.size)); clear hb)
    | fail)
   go_ret
   exact ⟨rfl, HBB.out⟩
 ·have hd0 : decide ((0 : Int) < (K : Int)) = false := decide_eq_false (by omega)
  have hd1 : ¬ (0 : Int) < (K : Int) := by omega
  go_region_law (first
   | (refine step_app rfl (.tmp 77) (.tmp 78) 39 rfl (by simp [Act.eval]) (by simp [Act.eval]) ((row_empty w5).keep (Keeps.drew (fun _ => False) _) (fun _ _ h => h)) (Bw.src (HA5.out.keep (S := fun _ => False) ((Keeps.alloc _ _ _).then (Keeps.drew _ _)) (fun _ h => h))) HS0.out ?_; intro v1 w6 g1 hr1 hg1 hn1; rw [List.nil_append] at hr1; have hk6 : Keeps (fun _ => False) w5 w6 := ((Keeps.alloc _ w5 _).then (Keeps.drew _ _)).trans (Keeps.grown hg1 (S := fun k => k = w5.heap.size) (fun k _ e => by simpa using e.symm)) (fun k hk e => by omega); have hg1w : ∀ k, g1 = some k → w5.heap.size ≤ k := (fun k e => by rcases hn1 with h | h; (rw [h] at e; cases e; exact Nat.le_refl _); (have := h k e; simp at this; omega)); obtain ⟨a1, c1, rfl⟩ := row_slice hr1; have HR1 := Lib.hid hr1; have HK6 := Lib.hid hk6; have HG1 := Lib.hid hg1w; clear hr1 hg1 hn1 hk6 hg1w)
   | (refine step_app rfl (.tmp 79) (.tmp 82) 39 rfl (by simp [Act.eval]) (by simp [Act.eval]) HR1.out (Bw.src (HBK.out.keep HK6.out (fun _ h => h))) HS1.out ?_; intro v2 w7 g2 hr2 hg2 hn2; have hk7 : Keeps (fun _ => False) w5 w7 := HK6.out.trans (Keeps.grown hg2 (S := fun k => g1 = some k) (fun k _ e => e)) (fun k hk e => by have := HG1.out k e; omega); have hg2w : ∀ k, g2 = some k → w5.heap.size ≤ k := (fun k e => by rcases hn2 with h | h; (rw [h] at e; exact HG1.out k e); (exact Nat.le_trans HK6.out.size (h k e))); rw [← HL2.out] at hr2; obtain ⟨a2, c2, hv2⟩ := row_slice hr2; rw [HLA.out] at hv2; subst hv2; have HR2 := Lib.hid hr2; have HG2 := Lib.hid hg2w; have HL7 := Lib.hid (HL.out.keep hk7); clear hr2 hg2 hn2 hk7 hg2w))
  all_goals
   go_wp2_with fail
   have hw : L2 = W0 := by
    have hK0 : K = 0 := by omega
    rw [HWS.out, if_neg h0, HL2.out, hK0]
    simp
   have hrz := HR2.out
   rw [hw] at hrz
   obtain ⟨g3, hbs, hg3⟩ : ∃ g3, Bs w7 g3 (.slice a2 Q c2) W0 ∧ (W0 ≠ [] → w5.heap.size ≤ g3) := by
    refine ⟨g2.getD 0, hrz.bs, fun hne => ?_⟩
    obtain ⟨bb, cc, cur, hv, hg, _⟩ := row_block hrz hne
    rw [hg]
    exact HG2.out bb hg
   replace HL := HL7
   have HWB := Lib.hid hbs
   have hgw : ∀ k, W0 ≠ [] → S5 k → g3 ≠ k := fun k hne hs e => by have := HLS.out k hs; have := hg3 hne; omega
   clear hw hrz hbs hg3 HL7
   refine (HRD.out _ _ HL.out).mono ?_
   rintro e w8 ⟨x8, g8, rfl, m1, m2, m3⟩
   obtain ⟨gx, hxb, hgx⟩ := row_new m1 m2
   obtain ⟨xa, xc, hx8⟩ := row_slice m1
   rw [HWQ.out] at hx8
   subst hx8
   have hxS : ∀ k, W0 ≠ [] → S5 k → gx ≠ k := fun k hne hs e => by have := HL.out.lt k hs; have := hgx hne; omega
   have HWB8 := Lib.hid (HWB.out.keep m3 (fun _ h => h))
   have HXB := Lib.hid hxb
   replace HL := Lib.hid (HL.out.keep m3)
   clear m1 m2 m3 hxb hgx HWB
   have hcr := fun (x : World) (S : Nat → Prop) (h : Liv w x d S (dS W0 Q 3)) => h.crashes (tl_nil x (fun _ => False)) (fun _ h => h.elim) (by simp)
   rw [dS_5 W0 Q HWQ.out] at hcr
   have HCR := Lib.hid hcr
   clear hcr
   go_wp2_with fail
   refine (HCR.out _ _ HL.out).mono ?_
   rintro e w9 ⟨rfl, hk9, hl9⟩
   have HWB9 := Lib.hid (HWB8.out.keep hk9 (fun hne hs => hgw _ hne hs rfl))
   have HXB9 := Lib.hid (HXB.out.keep hk9 (fun hne hs => hxS _ hne hs rfl))
   replace HL := Lib.hid hl9
   clear hk9 hl9 HWB8 HXB hxS hgw
   go_wp2_with fail
   refine (HRD.out _ _ HL.out).mono ?_
   rintro e w10 ⟨y10, g10, rfl, m1, m2, m3⟩
   obtain ⟨ya, yc, hy10⟩ := row_slice m1
   have hys := Bs.str m1.bs
   rw [HWQ.out] at hy10
   subst hy10
   have hws := Bs.str (HWB9.out.keep m3 (fun _ h => h))
   have hxs := Bs.str (HXB9.out.keep m3 (fun _ h => h))
   replace HL := Lib.hid (HL.out.keep m3)
   clear m1 m2 m3 HWB9 HXB9
   go_wp2_with (first
    | (go_at_call 11; refine (num14_any _ _).mono ?_; rintro e w' ⟨rfl, rfl⟩)
    | (go_at_call 9; refine (HLIVE.out _).mono ?_; rintro e w11 ⟨rfl, hb⟩; have HBB := Lib.hid (HL.out.bel.trans (hb.mono HL.out.bel.size)); clear hb)
    | fail)
   go_ret
   exact ⟨rfl, HBB.out⟩
theorem slice_cap14 {P : Program} {w : World} {r : Reach} {b0 : Nat} {t e : TypeId} {a : Option Addr} {n c : Nat} (ht : P.underlying t = some (.slice e)) (h : Value.okWide P w r b0 t (.slice a n c)) : a ≠ none → n ≤ c := by
 intro ha
 cases a with
 | none => exact absurd rfl ha
 | some p =>
  simp only [Value.okWide, ht, Cell.okWide, Cell.ok] at h
  exact h.1
theorem byte_of14 {m : Int} (h : (Lit.int .u8 m).wf = true) : ∃ x : UInt8, m = (x.toNat : Int) := by
 have h1 : (0 : Int) ≤ m ∧ m ≤ 255 := by simpa [Lit.wf, IntKind.min, IntKind.max, IntKind.signed, IntKind.bits] using h
 refine ⟨UInt8.ofNat m.toNat, ?_⟩
 simp
 omega
theorem trodAll_five14 {H : Type} {enc : TypeId × Value → H} {P : Program} {w : World} {base : Nat} {spare : Nat → Bool} {held : Bool} {t0 t1 t2 t3 t4 : TypeId} {args : Array Value} {ds : List (DataW H)} {ps : List MemPlace} (h : DataW.TrodAll enc P w base spare held [t0, t1, t2, t3, t4] args.toList ds ps) :
  ∃ v0 v1 v2 v3 v4 d0 d1 d2 d3 d4 p0 p1 p2 p3 p4, args = #[v0, v1, v2, v3, v4] ∧ ds = [d0, d1, d2, d3, d4] ∧ ps = p0 ++ p1 ++ p2 ++ p3 ++ p4 ∧ DataW.Trod enc P w base spare held t0 v0 d0 p0 ∧ DataW.Trod enc P w base spare held t1 v1 d1 p1 ∧ DataW.Trod enc P w base spare held t2 v2 d2 p2 ∧ DataW.Trod enc P w base spare held t3 v3 d3 p3 ∧ DataW.Trod enc P w base spare held t4 v4 d4 p4 := by
 obtain ⟨v0, vs0, d0, ds0, p0, q0, hargs, rfl, rfl, h0, r0⟩ := trodAll_cons h
 obtain ⟨v1, vs1, d1, ds1, p1, q1, rfl, rfl, rfl, h1, r1⟩ := trodAll_cons r0
 obtain ⟨v2, vs2, d2, ds2, p2, q2, rfl, rfl, rfl, h2, r2⟩ := trodAll_cons r1
 obtain ⟨v3, vs3, d3, ds3, p3, q3, rfl, rfl, rfl, h3, r3⟩ := trodAll_cons r2
 obtain ⟨v4, vs4, d4, ds4, p4, q4, rfl, rfl, rfl, h4, r4⟩ := trodAll_cons r3
 obtain ⟨rfl, rfl, rfl⟩ := trodAll_nil r4
 exact ⟨v0, v1, v2, v3, v4, d0, d1, d2, d3, d4, p0, p1, p2, p3, p4, by cases args; simp_all, rfl, by simp, h0, h1, h2, h3, h4⟩
theorem bw_lt14 {w : World} {g : Nat} {v : Value} {l : List UInt8} (h : Bw w g v l) (hne : l ≠ []) : g < w.heap.size := by
 obtain ⟨a, c, _, _, _, h2⟩ := h
 obtain ⟨o, _, hx⟩ := h2 hne
 exact World.block_lt_of_cell? _ _ (hx 0 _ (List.getElem?_eq_getElem (List.length_pos_iff.2 hne)))
theorem drumSafe_lifted (os : Os) (started : os.Started) (H : Type) (enc : TypeId × Value → H) :
  ReturnsInHanded {} Try.checked os 4 .any (Rows.drumSafeSpec.pre6 enc Try.prog Try.f4 Rows.drumSafeRow.domain false) (Rows.drumSafeSpec.post enc Try.prog Try.f4 false true false false) := by
 refine law_lift_sized (C := Try.checked) own0 started (by kernel_rfl) Try.func4 laid0 rfl (by kernel_rfl) (fun _ _ _ _ => trodAll_mk1 (shut_bool Try.underlying4 true)) (fun ds h => match ds, h with | [_, _, _, _, _], _ => ⟨rfl, rfl, rfl⟩)
  (ChangeSpec.witness6 (enc := enc) (C := Try.checked) false ⟨#[], #[.slice none 0 0, .slice none 0 0, .int .i64 0, .int .u8 0, .int .i64 0], []⟩ 8 (by kernel_rfl) (by kernel_rfl) (by kernel_rfl) (by kernel_rfl)) ?_
 intro W base args ds before hval0 hA0 hlt hsz
 have hval : ∀ (j : Nat) t v, Try.f4.params[j]? = some t → args[j]? = some v → Value.okWide Try.prog W .any base t v := hval0
 have hA : DataW.TrodAll enc Try.prog W 0 (fun _ => true) true Try.f4.params.toList args.toList ds before := hA0
 rw [Try.params4] at hA hval
 obtain ⟨v0, v1, v2, v3, v4, d0, d1, d2, d3, d4, p0, p1, p2, p3, p4, rfl, rfl, rfl, h0, h1, h2, h3, h4⟩ := trodAll_five14 hA
 have hv0 := hval 0 39 v0 rfl rfl
 have hv1 := hval 1 39 v1 rfl rfl
 obtain ⟨ga, la, hb0⟩ := open_bytesv hv0 h0
 obtain ⟨gb, lb, hb1⟩ := open_bytesv hv1 h1
 obtain ⟨k, rfl, rfl, rfl, wk⟩ := open_int Try.underlying3 (hval 2 3 v2 rfl rfl) h2
 obtain ⟨m, rfl, rfl, rfl, wm⟩ := open_int Try.underlying5 (hval 3 5 v3 rfl rfl) h3
 obtain ⟨o, rfl, rfl, rfl, wo⟩ := open_int Try.underlying3 (hval 4 3 v4 rfl rfl) h4
 obtain ⟨x, rfl⟩ := byte_of14 wm
 refine drumSafe_walk ga gb _ _ la lb k x o W hb0 hb1 (fun hne => ?_) (fun hne => ?_) (bw_reach hb0 h0 hsz (j := 0) (by kernel_rfl) rfl) (bw_reach hb1 h1 hsz (j := 1) (by kernel_rfl) rfl) wk wo (fun y n c e => by subst e; exact slice_cap14 Try.underlying39 hv1)
 ·exact bw_lt14 hb0 hne
 ·exact bw_lt14 hb1 hne
theorem drumSafe_holds : Rows.DrumSafeSaid :=
 OpenClaim.holds_of_wide 4 Try.f4 rfl rfl rfl rfl rfl rfl rfl ⟨rfl, rfl, rfl, rfl, rfl⟩ rfl rfl rfl rfl rfl (by kernel_rfl) Try.func4 (by kernel_rfl)
  (of_decide_eq_true (by kernel_rfl)) (by unfold Func.isWrapper; rw [if_neg (of_decide_eq_false (by kernel_rfl))]; exact ⟨rfl, rfl⟩)
  (fun os started H enc _ => drumSafe_lifted os started H enc)
#print axioms drumSafe_holds
end SZ
end Go.Proofs.Ytebcgbahpgmliaa
