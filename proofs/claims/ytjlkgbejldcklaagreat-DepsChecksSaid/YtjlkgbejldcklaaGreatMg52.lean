/- The contract of the reference's Parse of dependencies: it answers what the program's does. Conditions: at most 20000 bytes. -/
import Derived.WalkSpells
import Derived.Deep.RegionHeld3
import Derived.Test.YtjlkgbejldcklaaGreatMg42
import Derived.Test.YtjlkgbejldcklaaGreatMg24
import Derived.Test.YtjlkgbejldcklaaGreatMg23
import Derived.Test.YtjlkgbejldcklaaGreatMg49
import Derived.Test.YtjlkgbejldcklaaGreatMg37
import Derived.Test.YtjlkgbejldcklaaGreatMg36
/- The contract of the reference's Read of dependencies. Conditions: at most 20000 bytes. -/
set_option linter.unusedVariables false
set_option linter.unusedSimpArgs false
namespace Go.Proofs.YtjlkgbejldcklaaGreat
open S1 SP
namespace SD
open Go.RowKit

theorem rat_grown {w w' : World} {b g : Nat} {B : List UInt8} {i : Nat} {bl : Bool} {r : Option Nat} (h : S2.RAt w b g B i bl) (hg : w.grownBy w' r) (h1 : r ≠ some b) (h2 : B ≠ [] → r ≠ some g) : S2.RAt w' b g B i bl :=
  h.keep (S2.Keeps.grown (S := fun x => r = some x) hg fun _ _ e => e) h1 h2
/-- What Read comes to: it goes on while there is something to read, and no further than nine. -/
def ReadR (w : World) (b g : Nat) (B : List UInt8) (e : Ending) (w' : World) : Prop :=
  ∃ a c F k i, e = .returned (.slice a F.length c) ∧ toD F = (manyD k (r1 B false) (!S2.okI B false)).1 ∧ Dl w' a F ∧ (a = none → c = 0) ∧ F.length ≤ c ∧ FewD F ∧ idsN (toD F) ≤ 1000000 ∧
    S2.RAt w' b g B i (manyD k (r1 B false) (!S2.okI B false)).2.2 ∧ B.drop i = (manyD k (r1 B false) (!S2.okI B false)).2.1 ∧ k ≤ (S2.valI B false).toNat ∧ k ≤ 9 ∧ (k = (S2.valI B false).toNat ∨ (manyD k (r1 B false) (!S2.okI B false)).2.2 = true ∨ k = 9) ∧ S2.Keeps (S2.Only b) w w'

def ReadRes (w wr : World) (b g : Nat) (B R : List UInt8) (bl0 : Bool) (N : Int) (a : Option Addr) (c : Nat) (F : List Dp) (k i : Nat) : Prop :=
  toD F = (manyD k R bl0).1 ∧ Dl wr a F ∧ (a = none → c = 0) ∧ F.length ≤ c ∧ FewD F ∧ idsN (toD F) ≤ 1000000 ∧
    S2.RAt wr b g B i (manyD k R bl0).2.2 ∧ B.drop i = (manyD k R bl0).2.1 ∧ k ≤ N.toNat ∧ k ≤ 9 ∧ (k = N.toNat ∨ (manyD k R bl0).2.2 = true ∨ k = 9) ∧ S2.Keeps (S2.Only b) w wr

set_option maxRecDepth 100000 in
set_option maxHeartbeats 8000000 in
theorem read_any (w : World) (b g : Nat) (B : List UInt8) (he : S2.RAt w b g B 0 false) (hlen : B.length ≤ 20000) :
    Calls Tryz.prog 99 #[.pointer (some ⟨b, 0, none⟩)] w (ReadR w b g B) := by
  have HE0 := Lib.hid he
  have HBL : Hid (b < w.heap.size) := he.lt
  have HGL : Hid (B ≠ [] → g < w.heap.size) := fun h => he.lt2 h
  clear he
  go_enter Tryz.func99, Tryz.ntmps99
  go_wp2_with fail
  refine (S2.rInt_any w b g B 0 false HE0.out).mono ?_
  rintro e w1 ⟨rfl, he1, hk1⟩
  rw [List.drop_zero] at he1 ⊢
  have HRD : Hid (B.drop (S2.stepN (S2.okI B false) 8 0) = r1 B false) := by
    show _ = _
    unfold r1
    have h := S2.behind_step (S2.okI B false) 8 0 B
    rw [List.drop_zero] at h
    exact h.symm
  have HE1 := Lib.hid he1
  have HK1 := Lib.hid hk1
  have hnl : Hid ((r1 B false).length ≤ 20000) := Nat.le_trans (r1_len B false) hlen
  generalize S2.stepN (S2.okI B false) 8 0 = i0 at *
  generalize hN : S2.valI B false = N at *
  generalize hR : r1 B false = R at *
  generalize hL : (!S2.okI B false) = bl0 at *
  have HEND : Hid (∀ (wr : World) a c F k i, ReadRes w wr b g B R bl0 N a c F k i → ReadR w b g B (.returned (.slice a F.length c)) wr) := by
    intro wr a c F k i h
    obtain ⟨l1, l2, l3, l4, l5, l6, l7, l8, l9, l10, l11, l12⟩ := h
    unfold ReadR
    rw [hN, hR, hL]
    exact ⟨a, c, F, k, i, rfl, l1, l2, l3, l4, l5, l6, l7, l8, l9, l10, l11, l12⟩
  clear he1 hk1 HE0 hN hR hL
  go_wp2
  go_loopw [4, 5] (fun v i wr => ∃ (k : Nat) (F : List Dp) (ip : Nat), i = .int .i64 k ∧ k ≤ N.toNat ∧ k ≤ 9 ∧ toD F = (manyD k R bl0).1 ∧ OwnD wr w.heap.size v F ∧ HasG wr v F ∧ (∀ s ∈ F, ∀ p, s.ia = some p → p.block ≠ b) ∧ S2.RAt wr b g B ip (manyD k R bl0).2.2 ∧ B.drop ip = (manyD k R bl0).2.1 ∧ S2.Keeps (S2.Only b) w wr) (fun _ i _ => 9 - (intOf i).toNat)
  case atStart => exact ⟨0, [], i0, rfl, Nat.zero_le _, Nat.zero_le _, rfl, OwnD.nil _ _, HasG.nil _ _, fun s hs => (by cases hs), HE1.out, HRD.out, HK1.out⟩
  case round =>
    clear HE1 HK1 HRD
    obtain ⟨k, F, ip, rfl, hkN, hk9, hF, ho, hg, hq, he, hrd, hkk⟩ := hrel
    have HO := Lib.hid ho
    have HG := Lib.hid hg
    have HQ := Lib.hid hq
    have HE := Lib.hid he
    have HRD := Lib.hid hrd
    have HK := Lib.hid hkk
    have HFE := Lib.hid hF
    obtain ⟨av2, cv2, rfl, _⟩ := ho.row
    have HML := Lib.hid (many_len k R bl0)
    have HFN : Hid (F.length = k) := by
      have h := congrArg List.length hF
      rw [toD_length, (many_len k R bl0).1] at h
      exact h
    have HFW : Hid (FewD F ∧ idsN (toD F) ≤ 1000000) := by
      have h3 : ∀ x ∈ toD F, x.2.length ≤ 100000 := fun x hx => Nat.le_trans (HML.out.2.2 x (by rw [← HFE.out]; exact hx)) (Nat.le_trans hnl.out (by decide))
      refine ⟨⟨by have := HFN.out; omega, fun s hs => Nat.le_trans (h3 s.d (List.mem_map.2 ⟨s, hs, rfl⟩)) (by decide)⟩, ?_⟩
      have := idsN_le8 h3
      rw [toD_length, HFN.out] at this
      omega
    have HDL : Hid (Dl wr av2 F) := by
      obtain ⟨a2, c2, hv, h1, h2, h3⟩ := HO.out.dl fun s hs => (HG.out s hs).1
      obtain ⟨rfl, _⟩ := Value.slice.inj hv
      exact h3
    have HZ : Hid ((av2 = none → cv2 = 0) ∧ F.length ≤ cv2) := by
      obtain ⟨a2, c2, hv, h1, h2, h3⟩ := HO.out.row
      obtain ⟨rfl, _, rfl⟩ := Value.slice.inj hv
      exact ⟨h1, h2⟩
    have hsize := hkk.size
    obtain ⟨ea, ec, _, e0, e1, e2, f1, f2, _, _, _⟩ := he.cells
    clear ho hg hq he hrd hkk hF
    have LEAVE : Hid (k = N.toNat ∨ (manyD k R bl0).2.2 = true ∨ k = 9 → ReadRes w wr b g B R bl0 N av2 cv2 F k ip) :=
      fun h => ⟨HFE.out, HDL.out, HZ.out.1, HZ.out.2, HFW.out.1, HFW.out.2, HE.out, HRD.out, hkN, hk9, h, HK.out⟩
    have hk0 : (0 : Int) ≤ (k : Int) := by omega
    by_cases hlt : (k : Int) < N
    · have hd1 : decide ((k : Int) < N) = true := decide_eq_true hlt
      cases hbb : (manyD k R bl0).2.2
      · by_cases h8 : k ≤ 8
        · have hd8 : (k : Int) ≤ 8 := by omega
          have hdd8 : decide ((k : Int) ≤ 8) = true := decide_eq_true hd8
          rw [hbb] at e2
          have HMS : Hid (manyD (k + 1) R bl0 = ((manyD k R bl0).1 ++ [one1 (manyD k R bl0).2.1 (manyD k R bl0).2.2], rest1 (manyD k R bl0).2.1 (manyD k R bl0).2.2, dim1 (manyD k R bl0).2.1 (manyD k R bl0).2.2)) := rfl
          clear LEAVE HML HDL HZ HFW
          rw [hbb] at HE HMS
          clear hbb
          generalize (manyD k R bl0).2.1 = rr at *
          go_wp2_with fail
          refine (S2.rInt_any wr b g B ip false HE.out).mono ?_
          rintro e w5 ⟨rfl, he5, hk5⟩
          rw [HRD.out] at he5 ⊢
          have HR5 : Hid (B.drop (S2.stepN (S2.okI rr false) 8 ip) = r1 rr false) := by
            show _ = _
            unfold r1
            rw [← HRD.out, S2.behind_step]
          have HE5 := Lib.hid he5
          have HK5 := Lib.hid hk5
          clear he5 hk5 e0 e1 e2 f1 f2
          generalize S2.stepN (S2.okI rr false) 8 ip = i5 at *
          go_wp2_with fail
          refine (S2.rStampsO_any w5 b g B i5 (!S2.okI rr false) HE5.out).mono ?_
          rintro e w6 ⟨v6, rfl, ho6, he6, hk6⟩
          rw [HR5.out] at ho6 he6
          have HR6 : Hid (B.drop (S2.stepN (S2.okL (r1 rr false) (!S2.okI rr false)) (8 + 16 * (S2.rd (r1 rr false)).toNat) i5) = rest1 rr false) := by
            show _ = _
            unfold rest1
            rw [← HR5.out, S2.behind_step]
          have HE6 : Hid (S2.RAt w6 b g B (S2.stepN (S2.okL (r1 rr false) (!S2.okI rr false)) (8 + 16 * (S2.rd (r1 rr false)).toNat) i5) (dim1 rr false)) := he6
          have hkk := HK5.out.then hk6
          have HKK := Lib.hid hkk
          obtain ⟨xa, xc, rfl, h1, h2, h3, h4, h5⟩ := ownL_at (show OwnL _ _ _ _ from ho6)
          have HM1 := Lib.hid h1
          have HM2 := Lib.hid h2
          have HM3 := Lib.hid h4
          have HM5 := Lib.hid h5
          have HMV := Lib.hid (apart_g HO.out h1 h3 HK5.out.size)
          have HO6 := Lib.hid (ownD_keep HO.out HBL.out hkk)
          have HG6 := Lib.hid (hasG_keep HG.out HQ.out hkk)
          have HS6 : Hid (w.heap.size ≤ w6.heap.size) := Nat.le_trans hsize hkk.size
          have HK6 : Hid (S2.Keeps (S2.Only b) w w6) := HK.out.then hkk
          clear h1 h2 h3 h4 h5 he6 hk6 hkk ho6
          generalize S2.stepN (S2.okL (r1 rr false) (!S2.okI rr false)) (8 + 16 * (S2.rd (r1 rr false)).toNat) i5 = i6 at *
          go_wp2_with (at_builtin; go_must (refine append_dp1 rfl (.tmp 24) (.tmp 30) rfl w.heap.size (v := .slice av2 F.length cv2) (d := F) (ad := ⟨w6.heap.size, 0, none⟩) (cap := 1) (m := ⟨S2.valI rr false, xa, xc, S2.valL (r1 rr false) (!S2.okI rr false)⟩) rfl rfl (HO6.out.later (blAlloc (Below.refl _ _) _)) (dp_one (w0 := w6) rfl rfl) (by have := HFN.out; omega) (by have := HS6.out; simp; omega) ?_; intro v' w' h1 h2 h3; have HO7 := Lib.hid h1; have HG7 := Lib.hid ((HG6.out.later (blAlloc (Below.refl _ _) _)).push (m := ⟨S2.valI rr false, xa, xc, S2.valL (r1 rr false) (!S2.okI rr false)⟩) (show IdsAt _ _ from ⟨HM1.out.later (blAlloc (Below.refl _ _) _), HM2.out, HM3.out⟩) HMV.out h2 h3); have HK7 : Hid (S2.Keeps (S2.Only b) w w') := S2.kGrown (S2.kAlloc HK6.out _) h2 (fun k hk => .inr (HO6.out.block k hk).1); have HE7 := Lib.hid (rat_grown (HE6.out.before (S2.kAlloc (S2.Keeps.refl _ _) _)) h2 (fun e => by have := (HO6.out.block b e).1; have := HBL.out; omega) (fun hne e => by have := (HO6.out.block g e).1; have := HGL.out hne; omega)); have HQ7 : Hid (∀ s ∈ F ++ [⟨S2.valI rr false, xa, xc, S2.valL (r1 rr false) (!S2.okI rr false)⟩], ∀ p, s.ia = some p → p.block ≠ b) := (by intro s hs p hp; rcases List.mem_append.1 hs with hs | hs; exact HQ.out s hs p hp; rw [List.mem_singleton] at hs; subst hs; have := HM5.out p hp; have := HK5.out.size; have := HBL.out; omega); clear h1 h2 h3))
          go_roundw
          case rel => exact ⟨k + 1, _, i6, by go_num, by omega, by omega, by rw [HMS.out]; show _ = (manyD k R bl0).1 ++ [one1 rr false]; rw [← HFE.out]; unfold toD; rw [List.map_append]; rfl, HO7.out, HG7.out, HQ7.out, by rw [HMS.out]; exact HE7.out, by rw [HMS.out]; exact HR6.out, HK7.out⟩
          case measure => simp [intOf]; omega
        · have hd8 : ¬ (k : Int) ≤ 8 := by omega
          have hdd8 : decide ((k : Int) ≤ 8) = false := decide_eq_false hd8
          rw [hbb] at e2
          have HLV := Lib.hid (HEND.out _ _ _ _ _ _ (LEAVE.out (.inr (.inr (by omega)))))
          go_wp2
          go_ret
          exact HLV.out
      · rw [hbb] at e2
        have HLV := Lib.hid (HEND.out _ _ _ _ _ _ (LEAVE.out (.inr (.inl hbb))))
        go_wp2
        go_ret
        exact HLV.out
    · have hd1 : decide ((k : Int) < N) = false := decide_eq_false hlt
      have HLV := Lib.hid (HEND.out _ _ _ _ _ _ (LEAVE.out (.inl (by omega))))
      go_wp2
      go_ret
      exact HLV.out

end SD
end Go.Proofs.YtjlkgbejldcklaaGreat

/- The contract of the reference's Parse of dependencies: it answers what the program's does. Conditions: at most 20000 bytes. -/
set_option linter.unusedVariables false
set_option linter.unusedSimpArgs false
namespace Go.Proofs.YtjlkgbejldcklaaGreat
open S1 SP
namespace SD
open Go.RowKit

theorem ite_no8 {b : Bool} [Decidable (b = true)] {p q : Prop} (h : b = false) (hq : q) : if b = true then p else q := by rw [if_neg (by rw [h]; decide)]; exact hq
theorem dim_blind (r : List UInt8) : dim1 r true = true := by
  unfold dim1 S2.okL S2.okI
  simp
theorem many_blind (R : List UInt8) (bl : Bool) (k : Nat) (h : (manyD k R bl).2.2 = true) : ∀ j, (manyD (k + j) R bl).2.2 = true := by
  intro j
  induction j with
  | zero => exact h
  | succ j ih =>
    show dim1 (manyD (k + j) R bl).2.1 (manyD (k + j) R bl).2.2 = true
    rw [ih]
    exact dim_blind _
/-- What the reference tests, behind its reading, says whether the bytes are dependencies. -/
theorem parse_iff {B : List UInt8} {D : Dd} {k : Nat} (hD : D = (manyD k (r1 B false) (!S2.okI B false)).1) (hk : k ≤ (S2.valI B false).toNat) (hs : k = (S2.valI B false).toNat ∨ (manyD k (r1 B false) (!S2.okI B false)).2.2 = true ∨ k = 9) :
    (S2.doneN (manyD k (r1 B false) (!S2.okI B false)).2.1 (manyD k (r1 B false) (!S2.okI B false)).2.2 = 0 ∧ checkD D = 0 ∧ layD D = B → parseD B = some D) ∧
    (∀ d, parseD B = some d → S2.doneN (manyD k (r1 B false) (!S2.okI B false)).2.1 (manyD k (r1 B false) (!S2.okI B false)).2.2 = 0 ∧ checkD D = 0 ∧ layD D = B) := by
  refine ⟨fun ⟨_, h2, h3⟩ => ?_, fun d h => ?_⟩
  · have := parse_front h2 []
    rw [List.append_nil, h3, if_pos rfl] at this
    exact this
  · obtain ⟨p1, p2⟩ := parse_some h
    unfold parseD at h
    split at h
    · cases h
    · rename_i h0
      split at h
      · rename_i h1
        obtain ⟨d1, d2⟩ := h1
        have hd : (manyD (S2.valI B false).toNat (r1 B false) (!S2.okI B false)).1 = d := by simpa using h
        have hkn : k = (S2.valI B false).toNat := by
          rcases hs with h | h | h
          · exact h
          · exfalso
            have := many_blind _ _ k h ((S2.valI B false).toNat - k)
            have e : k + ((S2.valI B false).toNat - k) = (S2.valI B false).toNat := by omega
            rw [e] at this
            have := (done_zero d1).1
            simp_all
          · omega
        subst hkn
        rw [hD, hd]
        exact ⟨d1, p2, p1⟩
      · cases h

set_option maxRecDepth 100000 in
set_option maxHeartbeats 8000000 in
theorem rparse_any (g0 : Nat) (a : Option Addr) (n c : Nat) (B : List UInt8) (w : World) (hb : S2.Bw w g0 (.slice a n c) B) (hlen : B.length ≤ 20000) :
    Calls Tryz.prog 16 #[.slice a n c] w (ParseR w B) := by
  have HB := Lib.hid hb
  clear hb
  go_enter Tryz.func16, Tryz.ntmps16
  go_wp2_with fail
  refine (S2.rOpen_w _ g0 _ B HB.out hlen).mono ?_
  rintro e w1 ⟨b, g, rfl, he, hb1, hg1, hbel⟩
  have HE1 := Lib.hid he
  have HB1 := Lib.hid hbel
  have HBB : Hid (w.heap.size ≤ b) := hb1
  clear he hb1 hg1 hbel
  go_wp2_with fail
  refine (read_any w1 b g B HE1.out hlen).mono ?_
  rintro e w2 ⟨a2, c2, F, k, i, rfl, h1, h2, h3, h4, h5, h6, h7, h8, h9, h10, h11, h12⟩
  obtain ⟨hp1, hp2⟩ := parse_iff h1 h9 h11
  rw [← h8] at hp1 hp2
  have HDL := Lib.hid h2
  have HZ := Lib.hid (And.intro h3 h4)
  have HFW := Lib.hid (And.intro h5 h6)
  have HE2 := Lib.hid h7
  have HB2 : Hid (Below w.heap.size w w2) := HB1.out.trans (h12.below HB1.out.size fun x hx e => by have e2 : x = b := e; have := HBB.out; omega)
  have HBW2 := Lib.hid (bw_keep HB.out HB2.out)
  have HP1 := Lib.hid hp1
  have HP2 := Lib.hid hp2
  clear h1 h2 h3 h4 h5 h6 h7 h8 h9 h10 h11 h12 HE1 HB1 hp1 hp2
  generalize hbb : (manyD k (r1 B false) (!S2.okI B false)).2.2 = bb at *
  clear hbb
  have HK := Lib.hid (fun (Y : World) (h : Below w2.heap.size w2 Y) => bw_str (bw_keep HBW2.out h))
  have HFAIL : Hid (¬ (S2.doneN (B.drop i) bb = 0 ∧ checkD (toD F) = 0 ∧ layD (toD F) = B) → parseD B = none) := by
    intro h
    cases hp : parseD B with
    | none => rfl
    | some d => exact absurd (HP2.out d hp) h
  by_cases t1 : S2.doneN (B.drop i) bb = 0
  · by_cases t2 : checkD (toD F) = 0
    · by_cases t3 : layD (toD F) = B
      · have HOK := Lib.hid (HP1.out ⟨t1, t2, t3⟩)
        have HT1 := Lib.hid t1
        have HT2 := Lib.hid t2
        have HT3 := Lib.hid t3
        clear t1 t2 t3
        go_wp2_with fail
        refine wp_region_held_drew (S := (fun Y => (convert 23 9 (.slice a n c)).run Tryz.prog Y = .ok (.string ⟨B.toArray⟩) Y)) (by kernel_rfl) (HK.out _ (Below.refl w2.heap.size w2).drew) (fun hHeld => ?_)
        refine wpAnyH_take (i := 0) (oi := { dst := some 10, op := Op.move (Operand.tmp 4), type := 141, pos := "ref.go:160", after := #[], guard := none }) (v := ?_) rfl (by kernel_rfl) (by kernel_rfl) (by kernel_rfl) (fun _ _ _ h => h) (Or.inl ⟨by rfl, ?_⟩) (by assumption) ?_
        rotate_left
        · intro w hSw
          try dsimp only at hSw
          go_simp
          try with_reducible rfl
        try simp only [Act.put, List.setIfInBounds_toArray, List.set_cons_zero, List.set_cons_succ]
        refine wpAnyH_ready (rs := [1]) (by kernel_rfl) (by simp) ?_
        refine AllReadyH.cons (o := { dst := some 11, op := Op.call { callee := Callee.value (Operand.func 100), args := #[Operand.tmp 10], argTypes := #[141] }, type := 3, pos := "ref.go:160", after := #[{ on := 0, ground := Ground.data }], guard := none }) rfl (fun K hK => ?_) ?_
        rotate_left
        · exact AllReadyH.nil
        go_simp
        go_at_call 100
        refine (S2.rDone_any _ b g B i bb (HE2.out.before (S2.Keeps.drew _ _))).mono ?_
        rintro e w3 ⟨rfl, h5⟩
        rw [HT1.out]
        have HB3 : Hid (Below w2.heap.size w2 w3) := blThen (by repeat (first | with_reducible exact Below.refl _ _ | with_reducible refine blAlloc ?_ _ | with_reducible refine Below.drew ?_)) h5
        clear h5
        refine hK.out _ _ (HK.out _ HB3.out) (fun hHeld => ?_)
        clear hK K
        try simp only [Act.put, List.setIfInBounds_toArray, List.set_cons_zero, List.set_cons_succ]
        refine wpAnyH_take (i := 2) (oi := { dst := some 12, op := Op.binOp BinOp.neq 3 (Operand.tmp 11) (Operand.const (Value.int IntKind.i64 0)) 3, type := 4, pos := "ref.go:160", after := #[{ on := 1, ground := Ground.data }], guard := none }) (v := ?_) rfl (by kernel_rfl) (by kernel_rfl) (by kernel_rfl) (fun _ _ _ h => h) (Or.inl ⟨by rfl, ?_⟩) (by assumption) ?_
        rotate_left
        · intro w hSw
          try dsimp only at hSw
          go_simp
          try with_reducible rfl
        try simp only [Act.put, List.setIfInBounds_toArray, List.set_cons_zero, List.set_cons_succ]
        refine wpAnyH_take (i := 3) (oi := { dst := some 13, op := Op.move (Operand.tmp 12), type := 4, pos := "ref.go:160", after := #[{ on := 2, ground := Ground.data }, { on := 1, ground := Ground.chain }], guard := none }) (v := ?_) rfl (by kernel_rfl) (by kernel_rfl) (by kernel_rfl) (fun _ _ _ h => h) (Or.inl ⟨by rfl, ?_⟩) (by assumption) ?_
        rotate_left
        · intro w hSw
          try dsimp only at hSw
          go_simp
          try with_reducible rfl
        try simp only [Act.put, List.setIfInBounds_toArray, List.set_cons_zero, List.set_cons_succ]
        refine wpAnyH_take (i := 4) (oi := { dst := some 14, op := Op.move (Operand.tmp 5), type := 22, pos := "ref.go:160", after := #[{ on := 3, ground := Ground.guard }], guard := some (3, false) }) (v := ?_) rfl (by kernel_rfl) (by kernel_rfl) (by kernel_rfl) (fun _ _ _ h => h) (Or.inl ⟨by rfl, ?_⟩) (by assumption) ?_
        rotate_left
        · intro w hSw
          try dsimp only at hSw
          go_simp
          try with_reducible rfl
        try simp only [Act.put, List.setIfInBounds_toArray, List.set_cons_zero, List.set_cons_succ]
        refine wpAnyH_ready (rs := [5]) (by kernel_rfl) (by simp) ?_
        refine AllReadyH.cons (o := { dst := some 15, op := Op.call { callee := Callee.value (Operand.func 19), args := #[Operand.tmp 14], argTypes := #[22] }, type := 3, pos := "ref.go:160", after := #[{ on := 4, ground := Ground.data }, { on := 3, ground := Ground.chain }, { on := 3, ground := Ground.guard }], guard := some (3, false) }) rfl (fun K hK => ?_) ?_
        rotate_left
        · exact AllReadyH.nil
        go_simp
        go_at_call 19
        refine (refcheck_any _ _ F _ HFW.out.1 HFW.out.2 (HDL.out.later (by repeat (first | with_reducible exact HB3.out | with_reducible exact Below.refl _ _ | with_reducible refine blAlloc ?_ _ | with_reducible refine Below.drew ?_)))).mono ?_
        rintro e w4 ⟨rfl, h5⟩
        rw [HT2.out]
        have HB4 : Hid (Below w2.heap.size w2 w4) := blThen (by repeat (first | with_reducible exact HB3.out | with_reducible exact Below.refl _ _ | with_reducible refine blAlloc ?_ _ | with_reducible refine Below.drew ?_)) h5
        clear h5
        refine hK.out _ _ (HK.out _ HB4.out) (fun hHeld => ?_)
        clear hK K
        try simp only [Act.put, List.setIfInBounds_toArray, List.set_cons_zero, List.set_cons_succ]
        refine wpAnyH_take (i := 6) (oi := { dst := some 16, op := Op.binOp BinOp.neq 3 (Operand.tmp 15) (Operand.const (Value.int IntKind.i64 0)) 3, type := 4, pos := "ref.go:160", after := #[{ on := 5, ground := Ground.data }, { on := 3, ground := Ground.guard }], guard := some (3, false) }) (v := ?_) rfl (by kernel_rfl) (by kernel_rfl) (by kernel_rfl) (fun _ _ _ h => h) (Or.inl ⟨by rfl, ?_⟩) (by assumption) ?_
        rotate_left
        · intro w hSw
          try dsimp only at hSw
          go_simp
          try with_reducible rfl
        try simp only [Act.put, List.setIfInBounds_toArray, List.set_cons_zero, List.set_cons_succ]
        refine wpAnyH_take (i := 7) (oi := { dst := some 17, op := Op.pick (Operand.tmp 13) (Operand.const (Value.bool true)) (Operand.tmp 16), type := 4, pos := "ref.go:160", after := #[{ on := 3, ground := Ground.data }, { on := 6, ground := Ground.data }], guard := none }) (v := ?_) rfl (by kernel_rfl) (by kernel_rfl) (by kernel_rfl) (fun _ _ _ h => h) (Or.inl ⟨by rfl, ?_⟩) (by assumption) ?_
        rotate_left
        · intro w hSw
          try dsimp only at hSw
          go_simp
          try with_reducible rfl
        try simp only [Act.put, List.setIfInBounds_toArray, List.set_cons_zero, List.set_cons_succ]
        refine wpAnyH_take (i := 8) (oi := { dst := some 18, op := Op.move (Operand.tmp 17), type := 4, pos := "ref.go:160", after := #[{ on := 7, ground := Ground.data }, { on := 5, ground := Ground.chain }], guard := none }) (v := ?_) rfl (by kernel_rfl) (by kernel_rfl) (by kernel_rfl) (fun _ _ _ h => h) (Or.inl ⟨by rfl, ?_⟩) (by assumption) ?_
        rotate_left
        · intro w hSw
          try dsimp only at hSw
          go_simp
          try with_reducible rfl
        try simp only [Act.put, List.setIfInBounds_toArray, List.set_cons_zero, List.set_cons_succ]
        refine wpAnyH_take (i := 9) (oi := { dst := some 19, op := Op.move (Operand.tmp 5), type := 22, pos := "ref.go:160", after := #[{ on := 8, ground := Ground.guard }], guard := some (8, false) }) (v := ?_) rfl (by kernel_rfl) (by kernel_rfl) (by kernel_rfl) (fun _ _ _ h => h) (Or.inl ⟨by rfl, ?_⟩) (by assumption) ?_
        rotate_left
        · intro w hSw
          try dsimp only at hSw
          go_simp
          try with_reducible rfl
        try simp only [Act.put, List.setIfInBounds_toArray, List.set_cons_zero, List.set_cons_succ]
        refine wpAnyH_take (i := 12) (oi := { dst := some 22, op := Op.move (Operand.tmp 0), type := 23, pos := "ref.go:160", after := #[{ on := 8, ground := Ground.guard }], guard := some (8, false) }) (v := ?_) rfl (by kernel_rfl) (by kernel_rfl) (by kernel_rfl) (fun _ _ _ h => h) (Or.inl ⟨by rfl, ?_⟩) (by assumption) ?_
        rotate_left
        · intro w hSw
          try dsimp only at hSw
          go_simp
          try with_reducible rfl
        try simp only [Act.put, List.setIfInBounds_toArray, List.set_cons_zero, List.set_cons_succ]
        refine wpAnyH_take (i := 13) (oi := { dst := some 23, op := Op.convert 23 9 (Operand.tmp 22), type := 9, pos := "ref.go:160", after := #[{ on := 12, ground := Ground.data }, { on := 8, ground := Ground.guard }], guard := some (8, false) }) (v := ?_) rfl (by kernel_rfl) (by kernel_rfl) (by kernel_rfl) (fun _ _ _ h => h) (Or.inl ⟨by rfl, ?_⟩) (by assumption) ?_
        rotate_left
        · intro w hSw
          try dsimp only at hSw
          go_simp
          try with_reducible rfl
        try simp only [Act.put, List.setIfInBounds_toArray, List.set_cons_zero, List.set_cons_succ]
        refine wpAnyH_ready (rs := [10]) (by kernel_rfl) (by simp) ?_
        refine AllReadyH.cons (o := { dst := some 20, op := Op.call { callee := Callee.value (Operand.func 22), args := #[Operand.const (Value.slice none 0 0), Operand.tmp 19], argTypes := #[23, 22] }, type := 23, pos := "ref.go:160", after := #[{ on := 9, ground := Ground.data }, { on := 8, ground := Ground.chain }, { on := 8, ground := Ground.guard }], guard := some (8, false) }) rfl (fun K hK => ?_) ?_
        rotate_left
        · exact AllReadyH.nil
        go_simp
        go_at_call 22
        refine (reflay_any w2 _ none (.slice none 0 0) [] _ _ F HFW.out.1 HFW.out.2 (S2.Row.nil _) HDL.out (by repeat (first | with_reducible exact HB4.out | with_reducible exact HB3.out | with_reducible exact Below.refl _ _ | with_reducible refine blAlloc ?_ _ | with_reducible refine Below.drew ?_)) (fun k h => by cases h) (by simp)).mono ?_
        rintro e w5 ⟨v5, g5, rfl, h1, h2⟩
        rw [List.nil_append, HT3.out] at h1
        obtain ⟨p5, n5, q5, rfl⟩ := h1.form
        have hs5 := bw_str h1.bs.bw
        have HB5 : Hid (Below w2.heap.size w2 w5) := blThen (by repeat (first | with_reducible exact HB4.out | with_reducible exact HB3.out | with_reducible exact Below.refl _ _ | with_reducible refine blAlloc ?_ _ | with_reducible refine Below.drew ?_)) (S2.RowStep.below h2 (Nat.le_refl _) (fun k e => by cases e))
        clear h1 h2
        refine hK.out _ _ (HK.out _ HB5.out) (fun hHeld => ?_)
        clear hK K
        try simp only [Act.put, List.setIfInBounds_toArray, List.set_cons_zero, List.set_cons_succ]
        refine wpAnyH_ready (rs := [11]) (by kernel_rfl) (by simp) ?_
        refine AllReadyH.cons (o := { dst := some 21, op := Op.convert 23 9 (Operand.tmp 20), type := 9, pos := "ref.go:160", after := #[{ on := 10, ground := Ground.data }, { on := 8, ground := Ground.guard }], guard := some (8, false) }) rfl (fun K hK => ?_) ?_
        rotate_left
        · exact AllReadyH.nil
        go_simp
        refine hK.out _ _ (HK.out _ HB5.out) (fun hHeld => ?_)
        clear hK K
        try simp only [Act.put, List.setIfInBounds_toArray, List.set_cons_zero, List.set_cons_succ]
        refine wpAnyH_take (i := 14) (oi := { dst := some 24, op := Op.binOp BinOp.neq 9 (Operand.tmp 21) (Operand.tmp 23) 9, type := 4, pos := "ref.go:160", after := #[{ on := 11, ground := Ground.data }, { on := 13, ground := Ground.data }, { on := 8, ground := Ground.guard }], guard := some (8, false) }) (v := ?_) rfl (by kernel_rfl) (by kernel_rfl) (by kernel_rfl) (fun _ _ _ h => h) (Or.inl ⟨by rfl, ?_⟩) (by assumption) ?_
        rotate_left
        · intro w hSw
          try dsimp only at hSw
          go_simp
          try with_reducible rfl
        try simp only [Act.put, List.setIfInBounds_toArray, List.set_cons_zero, List.set_cons_succ]
        refine wpAnyH_take (i := 15) (oi := { dst := some 25, op := Op.pick (Operand.tmp 18) (Operand.const (Value.bool true)) (Operand.tmp 24), type := 4, pos := "ref.go:160", after := #[{ on := 8, ground := Ground.data }, { on := 14, ground := Ground.data }], guard := none }) (v := ?_) rfl (by kernel_rfl) (by kernel_rfl) (by kernel_rfl) (fun _ _ _ h => h) (Or.inl ⟨by rfl, ?_⟩) (by assumption) ?_
        rotate_left
        · intro w hSw
          try dsimp only at hSw
          go_simp
          try with_reducible rfl
        try simp only [Act.put, List.setIfInBounds_toArray, List.set_cons_zero, List.set_cons_succ]
        refine wpAnyH_done (by kernel_rfl) ?_ _
        go_wp2
        go_ret2
        exact ⟨a2, c2, F, by rw [HOK.out]; rfl, by rw [HOK.out]; rfl, HDL.out.later HB5.out, HZ.out.1, HZ.out.2, blThen HB2.out HB5.out⟩
      · have HNO := Lib.hid (HFAIL.out fun h => t3 h.2.2)
        have HT1 := Lib.hid t1
        have HT2 := Lib.hid t2
        have hne : (layD (toD F) == B) = false := by simpa using t3
        clear t1 t2 t3
        go_wp2_with fail
        refine wp_region_held_drew (S := (fun Y => (convert 23 9 (.slice a n c)).run Tryz.prog Y = .ok (.string ⟨B.toArray⟩) Y)) (by kernel_rfl) (HK.out _ (Below.refl w2.heap.size w2).drew) (fun hHeld => ?_)
        refine wpAnyH_take (i := 0) (oi := { dst := some 10, op := Op.move (Operand.tmp 4), type := 141, pos := "ref.go:160", after := #[], guard := none }) (v := ?_) rfl (by kernel_rfl) (by kernel_rfl) (by kernel_rfl) (fun _ _ _ h => h) (Or.inl ⟨by rfl, ?_⟩) (by assumption) ?_
        rotate_left
        · intro w hSw
          try dsimp only at hSw
          go_simp
          try with_reducible rfl
        try simp only [Act.put, List.setIfInBounds_toArray, List.set_cons_zero, List.set_cons_succ]
        refine wpAnyH_ready (rs := [1]) (by kernel_rfl) (by simp) ?_
        refine AllReadyH.cons (o := { dst := some 11, op := Op.call { callee := Callee.value (Operand.func 100), args := #[Operand.tmp 10], argTypes := #[141] }, type := 3, pos := "ref.go:160", after := #[{ on := 0, ground := Ground.data }], guard := none }) rfl (fun K hK => ?_) ?_
        rotate_left
        · exact AllReadyH.nil
        go_simp
        go_at_call 100
        refine (S2.rDone_any _ b g B i bb (HE2.out.before (S2.Keeps.drew _ _))).mono ?_
        rintro e w3 ⟨rfl, h5⟩
        rw [HT1.out]
        have HB3 : Hid (Below w2.heap.size w2 w3) := blThen (by repeat (first | with_reducible exact Below.refl _ _ | with_reducible refine blAlloc ?_ _ | with_reducible refine Below.drew ?_)) h5
        clear h5
        refine hK.out _ _ (HK.out _ HB3.out) (fun hHeld => ?_)
        clear hK K
        try simp only [Act.put, List.setIfInBounds_toArray, List.set_cons_zero, List.set_cons_succ]
        refine wpAnyH_take (i := 2) (oi := { dst := some 12, op := Op.binOp BinOp.neq 3 (Operand.tmp 11) (Operand.const (Value.int IntKind.i64 0)) 3, type := 4, pos := "ref.go:160", after := #[{ on := 1, ground := Ground.data }], guard := none }) (v := ?_) rfl (by kernel_rfl) (by kernel_rfl) (by kernel_rfl) (fun _ _ _ h => h) (Or.inl ⟨by rfl, ?_⟩) (by assumption) ?_
        rotate_left
        · intro w hSw
          try dsimp only at hSw
          go_simp
          try with_reducible rfl
        try simp only [Act.put, List.setIfInBounds_toArray, List.set_cons_zero, List.set_cons_succ]
        refine wpAnyH_take (i := 3) (oi := { dst := some 13, op := Op.move (Operand.tmp 12), type := 4, pos := "ref.go:160", after := #[{ on := 2, ground := Ground.data }, { on := 1, ground := Ground.chain }], guard := none }) (v := ?_) rfl (by kernel_rfl) (by kernel_rfl) (by kernel_rfl) (fun _ _ _ h => h) (Or.inl ⟨by rfl, ?_⟩) (by assumption) ?_
        rotate_left
        · intro w hSw
          try dsimp only at hSw
          go_simp
          try with_reducible rfl
        try simp only [Act.put, List.setIfInBounds_toArray, List.set_cons_zero, List.set_cons_succ]
        refine wpAnyH_take (i := 4) (oi := { dst := some 14, op := Op.move (Operand.tmp 5), type := 22, pos := "ref.go:160", after := #[{ on := 3, ground := Ground.guard }], guard := some (3, false) }) (v := ?_) rfl (by kernel_rfl) (by kernel_rfl) (by kernel_rfl) (fun _ _ _ h => h) (Or.inl ⟨by rfl, ?_⟩) (by assumption) ?_
        rotate_left
        · intro w hSw
          try dsimp only at hSw
          go_simp
          try with_reducible rfl
        try simp only [Act.put, List.setIfInBounds_toArray, List.set_cons_zero, List.set_cons_succ]
        refine wpAnyH_ready (rs := [5]) (by kernel_rfl) (by simp) ?_
        refine AllReadyH.cons (o := { dst := some 15, op := Op.call { callee := Callee.value (Operand.func 19), args := #[Operand.tmp 14], argTypes := #[22] }, type := 3, pos := "ref.go:160", after := #[{ on := 4, ground := Ground.data }, { on := 3, ground := Ground.chain }, { on := 3, ground := Ground.guard }], guard := some (3, false) }) rfl (fun K hK => ?_) ?_
        rotate_left
        · exact AllReadyH.nil
        go_simp
        go_at_call 19
        refine (refcheck_any _ _ F _ HFW.out.1 HFW.out.2 (HDL.out.later (by repeat (first | with_reducible exact HB3.out | with_reducible exact Below.refl _ _ | with_reducible refine blAlloc ?_ _ | with_reducible refine Below.drew ?_)))).mono ?_
        rintro e w4 ⟨rfl, h5⟩
        rw [HT2.out]
        have HB4 : Hid (Below w2.heap.size w2 w4) := blThen (by repeat (first | with_reducible exact HB3.out | with_reducible exact Below.refl _ _ | with_reducible refine blAlloc ?_ _ | with_reducible refine Below.drew ?_)) h5
        clear h5
        refine hK.out _ _ (HK.out _ HB4.out) (fun hHeld => ?_)
        clear hK K
        try simp only [Act.put, List.setIfInBounds_toArray, List.set_cons_zero, List.set_cons_succ]
        refine wpAnyH_take (i := 6) (oi := { dst := some 16, op := Op.binOp BinOp.neq 3 (Operand.tmp 15) (Operand.const (Value.int IntKind.i64 0)) 3, type := 4, pos := "ref.go:160", after := #[{ on := 5, ground := Ground.data }, { on := 3, ground := Ground.guard }], guard := some (3, false) }) (v := ?_) rfl (by kernel_rfl) (by kernel_rfl) (by kernel_rfl) (fun _ _ _ h => h) (Or.inl ⟨by rfl, ?_⟩) (by assumption) ?_
        rotate_left
        · intro w hSw
          try dsimp only at hSw
          go_simp
          try with_reducible rfl
        try simp only [Act.put, List.setIfInBounds_toArray, List.set_cons_zero, List.set_cons_succ]
        refine wpAnyH_take (i := 7) (oi := { dst := some 17, op := Op.pick (Operand.tmp 13) (Operand.const (Value.bool true)) (Operand.tmp 16), type := 4, pos := "ref.go:160", after := #[{ on := 3, ground := Ground.data }, { on := 6, ground := Ground.data }], guard := none }) (v := ?_) rfl (by kernel_rfl) (by kernel_rfl) (by kernel_rfl) (fun _ _ _ h => h) (Or.inl ⟨by rfl, ?_⟩) (by assumption) ?_
        rotate_left
        · intro w hSw
          try dsimp only at hSw
          go_simp
          try with_reducible rfl
        try simp only [Act.put, List.setIfInBounds_toArray, List.set_cons_zero, List.set_cons_succ]
        refine wpAnyH_take (i := 8) (oi := { dst := some 18, op := Op.move (Operand.tmp 17), type := 4, pos := "ref.go:160", after := #[{ on := 7, ground := Ground.data }, { on := 5, ground := Ground.chain }], guard := none }) (v := ?_) rfl (by kernel_rfl) (by kernel_rfl) (by kernel_rfl) (fun _ _ _ h => h) (Or.inl ⟨by rfl, ?_⟩) (by assumption) ?_
        rotate_left
        · intro w hSw
          try dsimp only at hSw
          go_simp
          try with_reducible rfl
        try simp only [Act.put, List.setIfInBounds_toArray, List.set_cons_zero, List.set_cons_succ]
        refine wpAnyH_take (i := 9) (oi := { dst := some 19, op := Op.move (Operand.tmp 5), type := 22, pos := "ref.go:160", after := #[{ on := 8, ground := Ground.guard }], guard := some (8, false) }) (v := ?_) rfl (by kernel_rfl) (by kernel_rfl) (by kernel_rfl) (fun _ _ _ h => h) (Or.inl ⟨by rfl, ?_⟩) (by assumption) ?_
        rotate_left
        · intro w hSw
          try dsimp only at hSw
          go_simp
          try with_reducible rfl
        try simp only [Act.put, List.setIfInBounds_toArray, List.set_cons_zero, List.set_cons_succ]
        refine wpAnyH_take (i := 12) (oi := { dst := some 22, op := Op.move (Operand.tmp 0), type := 23, pos := "ref.go:160", after := #[{ on := 8, ground := Ground.guard }], guard := some (8, false) }) (v := ?_) rfl (by kernel_rfl) (by kernel_rfl) (by kernel_rfl) (fun _ _ _ h => h) (Or.inl ⟨by rfl, ?_⟩) (by assumption) ?_
        rotate_left
        · intro w hSw
          try dsimp only at hSw
          go_simp
          try with_reducible rfl
        try simp only [Act.put, List.setIfInBounds_toArray, List.set_cons_zero, List.set_cons_succ]
        refine wpAnyH_take (i := 13) (oi := { dst := some 23, op := Op.convert 23 9 (Operand.tmp 22), type := 9, pos := "ref.go:160", after := #[{ on := 12, ground := Ground.data }, { on := 8, ground := Ground.guard }], guard := some (8, false) }) (v := ?_) rfl (by kernel_rfl) (by kernel_rfl) (by kernel_rfl) (fun _ _ _ h => h) (Or.inl ⟨by rfl, ?_⟩) (by assumption) ?_
        rotate_left
        · intro w hSw
          try dsimp only at hSw
          go_simp
          try with_reducible rfl
        try simp only [Act.put, List.setIfInBounds_toArray, List.set_cons_zero, List.set_cons_succ]
        refine wpAnyH_ready (rs := [10]) (by kernel_rfl) (by simp) ?_
        refine AllReadyH.cons (o := { dst := some 20, op := Op.call { callee := Callee.value (Operand.func 22), args := #[Operand.const (Value.slice none 0 0), Operand.tmp 19], argTypes := #[23, 22] }, type := 23, pos := "ref.go:160", after := #[{ on := 9, ground := Ground.data }, { on := 8, ground := Ground.chain }, { on := 8, ground := Ground.guard }], guard := some (8, false) }) rfl (fun K hK => ?_) ?_
        rotate_left
        · exact AllReadyH.nil
        go_simp
        go_at_call 22
        refine (reflay_any w2 _ none (.slice none 0 0) [] _ _ F HFW.out.1 HFW.out.2 (S2.Row.nil _) HDL.out (by repeat (first | with_reducible exact HB4.out | with_reducible exact HB3.out | with_reducible exact Below.refl _ _ | with_reducible refine blAlloc ?_ _ | with_reducible refine Below.drew ?_)) (fun k h => by cases h) (by simp)).mono ?_
        rintro e w5 ⟨v5, g5, rfl, h1, h2⟩
        rw [List.nil_append] at h1
        obtain ⟨p5, n5, q5, rfl⟩ := h1.form
        have hs5 := bw_str h1.bs.bw
        have HB5 : Hid (Below w2.heap.size w2 w5) := blThen (by repeat (first | with_reducible exact HB4.out | with_reducible exact HB3.out | with_reducible exact Below.refl _ _ | with_reducible refine blAlloc ?_ _ | with_reducible refine Below.drew ?_)) (S2.RowStep.below h2 (Nat.le_refl _) (fun k e => by cases e))
        clear h1 h2
        refine hK.out _ _ (HK.out _ HB5.out) (fun hHeld => ?_)
        clear hK K
        try simp only [Act.put, List.setIfInBounds_toArray, List.set_cons_zero, List.set_cons_succ]
        refine wpAnyH_ready (rs := [11]) (by kernel_rfl) (by simp) ?_
        refine AllReadyH.cons (o := { dst := some 21, op := Op.convert 23 9 (Operand.tmp 20), type := 9, pos := "ref.go:160", after := #[{ on := 10, ground := Ground.data }, { on := 8, ground := Ground.guard }], guard := some (8, false) }) rfl (fun K hK => ?_) ?_
        rotate_left
        · exact AllReadyH.nil
        go_simp
        refine hK.out _ _ (HK.out _ HB5.out) (fun hHeld => ?_)
        clear hK K
        try simp only [Act.put, List.setIfInBounds_toArray, List.set_cons_zero, List.set_cons_succ]
        refine wpAnyH_take (i := 14) (oi := { dst := some 24, op := Op.binOp BinOp.neq 9 (Operand.tmp 21) (Operand.tmp 23) 9, type := 4, pos := "ref.go:160", after := #[{ on := 11, ground := Ground.data }, { on := 13, ground := Ground.data }, { on := 8, ground := Ground.guard }], guard := some (8, false) }) (v := ?_) rfl (by kernel_rfl) (by kernel_rfl) (by kernel_rfl) (fun _ _ _ h => h) (Or.inl ⟨by rfl, ?_⟩) (by assumption) ?_
        rotate_left
        · intro w hSw
          try dsimp only at hSw
          go_simp
          try with_reducible rfl
        try simp only [Act.put, List.setIfInBounds_toArray, List.set_cons_zero, List.set_cons_succ]
        refine wpAnyH_take (i := 15) (oi := { dst := some 25, op := Op.pick (Operand.tmp 18) (Operand.const (Value.bool true)) (Operand.tmp 24), type := 4, pos := "ref.go:160", after := #[{ on := 8, ground := Ground.data }, { on := 14, ground := Ground.data }], guard := none }) (v := ?_) rfl (by kernel_rfl) (by kernel_rfl) (by kernel_rfl) (fun _ _ _ h => h) (Or.inl ⟨by rfl, ?_⟩) (by assumption) ?_
        rotate_left
        · intro w hSw
          try dsimp only at hSw
          go_simp
          try with_reducible rfl
        try simp only [Act.put, List.setIfInBounds_toArray, List.set_cons_zero, List.set_cons_succ]
        refine wpAnyH_done (by kernel_rfl) ?_ _
        go_wp2
        go_ret2
        exact parse_none_ret HNO.out (blThen HB2.out HB5.out)
    · have HNO := Lib.hid (HFAIL.out fun h => t2 h.2.1)
      have HT1 := Lib.hid t1
      have hck : (checkD (toD F) == 0) = false := by simpa using t2
      have hck1 : (checkD (toD F) != 0) = true := by simpa using t2
      have hck2 : ¬ checkD (toD F) = 0 := t2
      generalize hckE : checkD (toD F) = ck at *
      clear t1 t2
      go_wp2_with fail
      refine wp_region_held_drew (S := (fun Y => (convert 23 9 (.slice a n c)).run Tryz.prog Y = .ok (.string ⟨B.toArray⟩) Y)) (by kernel_rfl) (HK.out _ (Below.refl w2.heap.size w2).drew) (fun hHeld => ?_)
      refine wpAnyH_take (i := 0) (oi := { dst := some 10, op := Op.move (Operand.tmp 4), type := 141, pos := "ref.go:160", after := #[], guard := none }) (v := ?_) rfl (by kernel_rfl) (by kernel_rfl) (by kernel_rfl) (fun _ _ _ h => h) (Or.inl ⟨by rfl, ?_⟩) (by assumption) ?_
      rotate_left
      · intro w hSw
        try dsimp only at hSw
        go_simp
        try with_reducible rfl
      try simp only [Act.put, List.setIfInBounds_toArray, List.set_cons_zero, List.set_cons_succ]
      refine wpAnyH_ready (rs := [1]) (by kernel_rfl) (by simp) ?_
      refine AllReadyH.cons (o := { dst := some 11, op := Op.call { callee := Callee.value (Operand.func 100), args := #[Operand.tmp 10], argTypes := #[141] }, type := 3, pos := "ref.go:160", after := #[{ on := 0, ground := Ground.data }], guard := none }) rfl (fun K hK => ?_) ?_
      rotate_left
      · exact AllReadyH.nil
      go_simp
      go_at_call 100
      refine (S2.rDone_any _ b g B i bb (HE2.out.before (S2.Keeps.drew _ _))).mono ?_
      rintro e w3 ⟨rfl, h5⟩
      rw [HT1.out]
      have HB3 : Hid (Below w2.heap.size w2 w3) := blThen (by repeat (first | with_reducible exact Below.refl _ _ | with_reducible refine blAlloc ?_ _ | with_reducible refine Below.drew ?_)) h5
      clear h5
      refine hK.out _ _ (HK.out _ HB3.out) (fun hHeld => ?_)
      clear hK K
      try simp only [Act.put, List.setIfInBounds_toArray, List.set_cons_zero, List.set_cons_succ]
      refine wpAnyH_take (i := 2) (oi := { dst := some 12, op := Op.binOp BinOp.neq 3 (Operand.tmp 11) (Operand.const (Value.int IntKind.i64 0)) 3, type := 4, pos := "ref.go:160", after := #[{ on := 1, ground := Ground.data }], guard := none }) (v := ?_) rfl (by kernel_rfl) (by kernel_rfl) (by kernel_rfl) (fun _ _ _ h => h) (Or.inl ⟨by rfl, ?_⟩) (by assumption) ?_
      rotate_left
      · intro w hSw
        try dsimp only at hSw
        go_simp
        try with_reducible rfl
      try simp only [Act.put, List.setIfInBounds_toArray, List.set_cons_zero, List.set_cons_succ]
      refine wpAnyH_take (i := 3) (oi := { dst := some 13, op := Op.move (Operand.tmp 12), type := 4, pos := "ref.go:160", after := #[{ on := 2, ground := Ground.data }, { on := 1, ground := Ground.chain }], guard := none }) (v := ?_) rfl (by kernel_rfl) (by kernel_rfl) (by kernel_rfl) (fun _ _ _ h => h) (Or.inl ⟨by rfl, ?_⟩) (by assumption) ?_
      rotate_left
      · intro w hSw
        try dsimp only at hSw
        go_simp
        try with_reducible rfl
      try simp only [Act.put, List.setIfInBounds_toArray, List.set_cons_zero, List.set_cons_succ]
      refine wpAnyH_take (i := 4) (oi := { dst := some 14, op := Op.move (Operand.tmp 5), type := 22, pos := "ref.go:160", after := #[{ on := 3, ground := Ground.guard }], guard := some (3, false) }) (v := ?_) rfl (by kernel_rfl) (by kernel_rfl) (by kernel_rfl) (fun _ _ _ h => h) (Or.inl ⟨by rfl, ?_⟩) (by assumption) ?_
      rotate_left
      · intro w hSw
        try dsimp only at hSw
        go_simp
        try with_reducible rfl
      try simp only [Act.put, List.setIfInBounds_toArray, List.set_cons_zero, List.set_cons_succ]
      refine wpAnyH_ready (rs := [5]) (by kernel_rfl) (by simp) ?_
      refine AllReadyH.cons (o := { dst := some 15, op := Op.call { callee := Callee.value (Operand.func 19), args := #[Operand.tmp 14], argTypes := #[22] }, type := 3, pos := "ref.go:160", after := #[{ on := 4, ground := Ground.data }, { on := 3, ground := Ground.chain }, { on := 3, ground := Ground.guard }], guard := some (3, false) }) rfl (fun K hK => ?_) ?_
      rotate_left
      · exact AllReadyH.nil
      go_simp
      go_at_call 19
      refine (refcheck_any _ _ F _ HFW.out.1 HFW.out.2 (HDL.out.later (by repeat (first | with_reducible exact HB3.out | with_reducible exact Below.refl _ _ | with_reducible refine blAlloc ?_ _ | with_reducible refine Below.drew ?_)))).mono ?_
      rintro e w4 ⟨rfl, h5⟩
      rw [hckE]
      have HB4 : Hid (Below w2.heap.size w2 w4) := blThen (by repeat (first | with_reducible exact HB3.out | with_reducible exact Below.refl _ _ | with_reducible refine blAlloc ?_ _ | with_reducible refine Below.drew ?_)) h5
      clear h5
      refine hK.out _ _ (HK.out _ HB4.out) (fun hHeld => ?_)
      clear hK K
      try simp only [Act.put, List.setIfInBounds_toArray, List.set_cons_zero, List.set_cons_succ]
      refine wpAnyH_take (i := 6) (oi := { dst := some 16, op := Op.binOp BinOp.neq 3 (Operand.tmp 15) (Operand.const (Value.int IntKind.i64 0)) 3, type := 4, pos := "ref.go:160", after := #[{ on := 5, ground := Ground.data }, { on := 3, ground := Ground.guard }], guard := some (3, false) }) (v := ?_) rfl (by kernel_rfl) (by kernel_rfl) (by kernel_rfl) (fun _ _ _ h => h) (Or.inl ⟨by rfl, ?_⟩) (by assumption) ?_
      rotate_left
      · intro w hSw
        try dsimp only at hSw
        go_simp
        try with_reducible rfl
      try simp only [Act.put, List.setIfInBounds_toArray, List.set_cons_zero, List.set_cons_succ]
      refine wpAnyH_take (i := 7) (oi := { dst := some 17, op := Op.pick (Operand.tmp 13) (Operand.const (Value.bool true)) (Operand.tmp 16), type := 4, pos := "ref.go:160", after := #[{ on := 3, ground := Ground.data }, { on := 6, ground := Ground.data }], guard := none }) (v := ?_) rfl (by kernel_rfl) (by kernel_rfl) (by kernel_rfl) (fun _ _ _ h => h) (Or.inl ⟨by rfl, ?_⟩) (by assumption) ?_
      rotate_left
      · intro w hSw
        try dsimp only at hSw
        go_simp
        try with_reducible rfl
      try simp only [Act.put, List.setIfInBounds_toArray, List.set_cons_zero, List.set_cons_succ]
      refine wpAnyH_take (i := 8) (oi := { dst := some 18, op := Op.move (Operand.tmp 17), type := 4, pos := "ref.go:160", after := #[{ on := 7, ground := Ground.data }, { on := 5, ground := Ground.chain }], guard := none }) (v := ?_) rfl (by kernel_rfl) (by kernel_rfl) (by kernel_rfl) (fun _ _ _ h => h) (Or.inl ⟨by rfl, ?_⟩) (by assumption) ?_
      rotate_left
      · intro w hSw
        try dsimp only at hSw
        go_simp
        try with_reducible rfl
      try simp only [Act.put, List.setIfInBounds_toArray, List.set_cons_zero, List.set_cons_succ]
      refine wpAnyH_take (i := 9) (oi := { dst := some 19, op := Op.move (Operand.tmp 5), type := 22, pos := "ref.go:160", after := #[{ on := 8, ground := Ground.guard }], guard := some (8, false) }) (v := undef) rfl (by kernel_rfl) (by kernel_rfl) (by kernel_rfl) (fun _ _ _ h => h) (Or.inr ⟨by rfl, rfl⟩) (by assumption) ?_
      try simp only [Act.put, List.setIfInBounds_toArray, List.set_cons_zero, List.set_cons_succ]
      refine wpAnyH_take (i := 12) (oi := { dst := some 22, op := Op.move (Operand.tmp 0), type := 23, pos := "ref.go:160", after := #[{ on := 8, ground := Ground.guard }], guard := some (8, false) }) (v := undef) rfl (by kernel_rfl) (by kernel_rfl) (by kernel_rfl) (fun _ _ _ h => h) (Or.inr ⟨by rfl, rfl⟩) (by assumption) ?_
      try simp only [Act.put, List.setIfInBounds_toArray, List.set_cons_zero, List.set_cons_succ]
      refine wpAnyH_take (i := 13) (oi := { dst := some 23, op := Op.convert 23 9 (Operand.tmp 22), type := 9, pos := "ref.go:160", after := #[{ on := 12, ground := Ground.data }, { on := 8, ground := Ground.guard }], guard := some (8, false) }) (v := undef) rfl (by kernel_rfl) (by kernel_rfl) (by kernel_rfl) (fun _ _ _ h => h) (Or.inr ⟨by rfl, rfl⟩) (by assumption) ?_
      try simp only [Act.put, List.setIfInBounds_toArray, List.set_cons_zero, List.set_cons_succ]
      refine wpAnyH_ready (rs := [10]) (by kernel_rfl) (by simp) ?_
      refine AllReadyH.cons (o := { dst := some 20, op := Op.call { callee := Callee.value (Operand.func 22), args := #[Operand.const (Value.slice none 0 0), Operand.tmp 19], argTypes := #[23, 22] }, type := 23, pos := "ref.go:160", after := #[{ on := 9, ground := Ground.data }, { on := 8, ground := Ground.chain }, { on := 8, ground := Ground.guard }], guard := some (8, false) }) rfl (fun K hK => ?_) ?_
      rotate_left
      · exact AllReadyH.nil
      refine ite_no8 (by rfl) ?_
      refine hK.out _ _ hHeld (fun hHeld => ?_)
      clear hK K
      try simp only [Act.put, List.setIfInBounds_toArray, List.set_cons_zero, List.set_cons_succ]
      refine wpAnyH_take (i := 11) (oi := { dst := some 21, op := Op.convert 23 9 (Operand.tmp 20), type := 9, pos := "ref.go:160", after := #[{ on := 10, ground := Ground.data }, { on := 8, ground := Ground.guard }], guard := some (8, false) }) (v := undef) rfl (by kernel_rfl) (by kernel_rfl) (by kernel_rfl) (fun _ _ _ h => h) (Or.inr ⟨by rfl, rfl⟩) (by assumption) ?_
      try simp only [Act.put, List.setIfInBounds_toArray, List.set_cons_zero, List.set_cons_succ]
      refine wpAnyH_take (i := 14) (oi := { dst := some 24, op := Op.binOp BinOp.neq 9 (Operand.tmp 21) (Operand.tmp 23) 9, type := 4, pos := "ref.go:160", after := #[{ on := 11, ground := Ground.data }, { on := 13, ground := Ground.data }, { on := 8, ground := Ground.guard }], guard := some (8, false) }) (v := undef) rfl (by kernel_rfl) (by kernel_rfl) (by kernel_rfl) (fun _ _ _ h => h) (Or.inr ⟨by rfl, rfl⟩) (by assumption) ?_
      try simp only [Act.put, List.setIfInBounds_toArray, List.set_cons_zero, List.set_cons_succ]
      refine wpAnyH_take (i := 15) (oi := { dst := some 25, op := Op.pick (Operand.tmp 18) (Operand.const (Value.bool true)) (Operand.tmp 24), type := 4, pos := "ref.go:160", after := #[{ on := 8, ground := Ground.data }, { on := 14, ground := Ground.data }], guard := none }) (v := ?_) rfl (by kernel_rfl) (by kernel_rfl) (by kernel_rfl) (fun _ _ _ h => h) (Or.inl ⟨by rfl, ?_⟩) (by assumption) ?_
      rotate_left
      · intro w hSw
        try dsimp only at hSw
        go_simp
        try with_reducible rfl
      try simp only [Act.put, List.setIfInBounds_toArray, List.set_cons_zero, List.set_cons_succ]
      refine wpAnyH_done (by kernel_rfl) ?_ _
      go_wp2
      go_ret2
      exact parse_none_ret HNO.out (blThen HB2.out HB4.out)
  · have HNO := Lib.hid (HFAIL.out fun h => t1 h.1)
    have hdn : (S2.doneN (B.drop i) bb == 0) = false := by simpa using t1
    have hdn1 : (S2.doneN (B.drop i) bb != 0) = true := by simpa using t1
    have hdn2 : ¬ S2.doneN (B.drop i) bb = 0 := t1
    generalize hdnE : S2.doneN (B.drop i) bb = dn at *
    clear t1
    go_wp2_with fail
    refine wp_region_held_drew (S := (fun Y => (convert 23 9 (.slice a n c)).run Tryz.prog Y = .ok (.string ⟨B.toArray⟩) Y)) (by kernel_rfl) (HK.out _ (Below.refl w2.heap.size w2).drew) (fun hHeld => ?_)
    refine wpAnyH_take (i := 0) (oi := { dst := some 10, op := Op.move (Operand.tmp 4), type := 141, pos := "ref.go:160", after := #[], guard := none }) (v := ?_) rfl (by kernel_rfl) (by kernel_rfl) (by kernel_rfl) (fun _ _ _ h => h) (Or.inl ⟨by rfl, ?_⟩) (by assumption) ?_
    rotate_left
    · intro w hSw
      try dsimp only at hSw
      go_simp
      try with_reducible rfl
    try simp only [Act.put, List.setIfInBounds_toArray, List.set_cons_zero, List.set_cons_succ]
    refine wpAnyH_ready (rs := [1]) (by kernel_rfl) (by simp) ?_
    refine AllReadyH.cons (o := { dst := some 11, op := Op.call { callee := Callee.value (Operand.func 100), args := #[Operand.tmp 10], argTypes := #[141] }, type := 3, pos := "ref.go:160", after := #[{ on := 0, ground := Ground.data }], guard := none }) rfl (fun K hK => ?_) ?_
    rotate_left
    · exact AllReadyH.nil
    go_simp
    go_at_call 100
    refine (S2.rDone_any _ b g B i bb (HE2.out.before (S2.Keeps.drew _ _))).mono ?_
    rintro e w3 ⟨rfl, h5⟩
    rw [hdnE]
    have HB3 : Hid (Below w2.heap.size w2 w3) := blThen (by repeat (first | with_reducible exact Below.refl _ _ | with_reducible refine blAlloc ?_ _ | with_reducible refine Below.drew ?_)) h5
    clear h5
    refine hK.out _ _ (HK.out _ HB3.out) (fun hHeld => ?_)
    clear hK K
    try simp only [Act.put, List.setIfInBounds_toArray, List.set_cons_zero, List.set_cons_succ]
    refine wpAnyH_take (i := 2) (oi := { dst := some 12, op := Op.binOp BinOp.neq 3 (Operand.tmp 11) (Operand.const (Value.int IntKind.i64 0)) 3, type := 4, pos := "ref.go:160", after := #[{ on := 1, ground := Ground.data }], guard := none }) (v := ?_) rfl (by kernel_rfl) (by kernel_rfl) (by kernel_rfl) (fun _ _ _ h => h) (Or.inl ⟨by rfl, ?_⟩) (by assumption) ?_
    rotate_left
    · intro w hSw
      try dsimp only at hSw
      go_simp
      try with_reducible rfl
    try simp only [Act.put, List.setIfInBounds_toArray, List.set_cons_zero, List.set_cons_succ]
    refine wpAnyH_take (i := 3) (oi := { dst := some 13, op := Op.move (Operand.tmp 12), type := 4, pos := "ref.go:160", after := #[{ on := 2, ground := Ground.data }, { on := 1, ground := Ground.chain }], guard := none }) (v := ?_) rfl (by kernel_rfl) (by kernel_rfl) (by kernel_rfl) (fun _ _ _ h => h) (Or.inl ⟨by rfl, ?_⟩) (by assumption) ?_
    rotate_left
    · intro w hSw
      try dsimp only at hSw
      go_simp
      try with_reducible rfl
    try simp only [Act.put, List.setIfInBounds_toArray, List.set_cons_zero, List.set_cons_succ]
    refine wpAnyH_take (i := 4) (oi := { dst := some 14, op := Op.move (Operand.tmp 5), type := 22, pos := "ref.go:160", after := #[{ on := 3, ground := Ground.guard }], guard := some (3, false) }) (v := undef) rfl (by kernel_rfl) (by kernel_rfl) (by kernel_rfl) (fun _ _ _ h => h) (Or.inr ⟨by rfl, rfl⟩) (by assumption) ?_
    try simp only [Act.put, List.setIfInBounds_toArray, List.set_cons_zero, List.set_cons_succ]
    refine wpAnyH_ready (rs := [5]) (by kernel_rfl) (by simp) ?_
    refine AllReadyH.cons (o := { dst := some 15, op := Op.call { callee := Callee.value (Operand.func 19), args := #[Operand.tmp 14], argTypes := #[22] }, type := 3, pos := "ref.go:160", after := #[{ on := 4, ground := Ground.data }, { on := 3, ground := Ground.chain }, { on := 3, ground := Ground.guard }], guard := some (3, false) }) rfl (fun K hK => ?_) ?_
    rotate_left
    · exact AllReadyH.nil
    refine ite_no8 (by rfl) ?_
    refine hK.out _ _ hHeld (fun hHeld => ?_)
    clear hK K
    try simp only [Act.put, List.setIfInBounds_toArray, List.set_cons_zero, List.set_cons_succ]
    refine wpAnyH_take (i := 6) (oi := { dst := some 16, op := Op.binOp BinOp.neq 3 (Operand.tmp 15) (Operand.const (Value.int IntKind.i64 0)) 3, type := 4, pos := "ref.go:160", after := #[{ on := 5, ground := Ground.data }, { on := 3, ground := Ground.guard }], guard := some (3, false) }) (v := undef) rfl (by kernel_rfl) (by kernel_rfl) (by kernel_rfl) (fun _ _ _ h => h) (Or.inr ⟨by rfl, rfl⟩) (by assumption) ?_
    try simp only [Act.put, List.setIfInBounds_toArray, List.set_cons_zero, List.set_cons_succ]
    refine wpAnyH_take (i := 7) (oi := { dst := some 17, op := Op.pick (Operand.tmp 13) (Operand.const (Value.bool true)) (Operand.tmp 16), type := 4, pos := "ref.go:160", after := #[{ on := 3, ground := Ground.data }, { on := 6, ground := Ground.data }], guard := none }) (v := ?_) rfl (by kernel_rfl) (by kernel_rfl) (by kernel_rfl) (fun _ _ _ h => h) (Or.inl ⟨by rfl, ?_⟩) (by assumption) ?_
    rotate_left
    · intro w hSw
      try dsimp only at hSw
      go_simp
      try with_reducible rfl
    try simp only [Act.put, List.setIfInBounds_toArray, List.set_cons_zero, List.set_cons_succ]
    refine wpAnyH_take (i := 8) (oi := { dst := some 18, op := Op.move (Operand.tmp 17), type := 4, pos := "ref.go:160", after := #[{ on := 7, ground := Ground.data }, { on := 5, ground := Ground.chain }], guard := none }) (v := ?_) rfl (by kernel_rfl) (by kernel_rfl) (by kernel_rfl) (fun _ _ _ h => h) (Or.inl ⟨by rfl, ?_⟩) (by assumption) ?_
    rotate_left
    · intro w hSw
      try dsimp only at hSw
      go_simp
      try with_reducible rfl
    try simp only [Act.put, List.setIfInBounds_toArray, List.set_cons_zero, List.set_cons_succ]
    refine wpAnyH_take (i := 9) (oi := { dst := some 19, op := Op.move (Operand.tmp 5), type := 22, pos := "ref.go:160", after := #[{ on := 8, ground := Ground.guard }], guard := some (8, false) }) (v := undef) rfl (by kernel_rfl) (by kernel_rfl) (by kernel_rfl) (fun _ _ _ h => h) (Or.inr ⟨by rfl, rfl⟩) (by assumption) ?_
    try simp only [Act.put, List.setIfInBounds_toArray, List.set_cons_zero, List.set_cons_succ]
    refine wpAnyH_take (i := 12) (oi := { dst := some 22, op := Op.move (Operand.tmp 0), type := 23, pos := "ref.go:160", after := #[{ on := 8, ground := Ground.guard }], guard := some (8, false) }) (v := undef) rfl (by kernel_rfl) (by kernel_rfl) (by kernel_rfl) (fun _ _ _ h => h) (Or.inr ⟨by rfl, rfl⟩) (by assumption) ?_
    try simp only [Act.put, List.setIfInBounds_toArray, List.set_cons_zero, List.set_cons_succ]
    refine wpAnyH_take (i := 13) (oi := { dst := some 23, op := Op.convert 23 9 (Operand.tmp 22), type := 9, pos := "ref.go:160", after := #[{ on := 12, ground := Ground.data }, { on := 8, ground := Ground.guard }], guard := some (8, false) }) (v := undef) rfl (by kernel_rfl) (by kernel_rfl) (by kernel_rfl) (fun _ _ _ h => h) (Or.inr ⟨by rfl, rfl⟩) (by assumption) ?_
    try simp only [Act.put, List.setIfInBounds_toArray, List.set_cons_zero, List.set_cons_succ]
    refine wpAnyH_ready (rs := [10]) (by kernel_rfl) (by simp) ?_
    refine AllReadyH.cons (o := { dst := some 20, op := Op.call { callee := Callee.value (Operand.func 22), args := #[Operand.const (Value.slice none 0 0), Operand.tmp 19], argTypes := #[23, 22] }, type := 23, pos := "ref.go:160", after := #[{ on := 9, ground := Ground.data }, { on := 8, ground := Ground.chain }, { on := 8, ground := Ground.guard }], guard := some (8, false) }) rfl (fun K hK => ?_) ?_
    rotate_left
    · exact AllReadyH.nil
    refine ite_no8 (by rfl) ?_
    refine hK.out _ _ hHeld (fun hHeld => ?_)
    clear hK K
    try simp only [Act.put, List.setIfInBounds_toArray, List.set_cons_zero, List.set_cons_succ]
    refine wpAnyH_take (i := 11) (oi := { dst := some 21, op := Op.convert 23 9 (Operand.tmp 20), type := 9, pos := "ref.go:160", after := #[{ on := 10, ground := Ground.data }, { on := 8, ground := Ground.guard }], guard := some (8, false) }) (v := undef) rfl (by kernel_rfl) (by kernel_rfl) (by kernel_rfl) (fun _ _ _ h => h) (Or.inr ⟨by rfl, rfl⟩) (by assumption) ?_
    try simp only [Act.put, List.setIfInBounds_toArray, List.set_cons_zero, List.set_cons_succ]
    refine wpAnyH_take (i := 14) (oi := { dst := some 24, op := Op.binOp BinOp.neq 9 (Operand.tmp 21) (Operand.tmp 23) 9, type := 4, pos := "ref.go:160", after := #[{ on := 11, ground := Ground.data }, { on := 13, ground := Ground.data }, { on := 8, ground := Ground.guard }], guard := some (8, false) }) (v := undef) rfl (by kernel_rfl) (by kernel_rfl) (by kernel_rfl) (fun _ _ _ h => h) (Or.inr ⟨by rfl, rfl⟩) (by assumption) ?_
    try simp only [Act.put, List.setIfInBounds_toArray, List.set_cons_zero, List.set_cons_succ]
    refine wpAnyH_take (i := 15) (oi := { dst := some 25, op := Op.pick (Operand.tmp 18) (Operand.const (Value.bool true)) (Operand.tmp 24), type := 4, pos := "ref.go:160", after := #[{ on := 8, ground := Ground.data }, { on := 14, ground := Ground.data }], guard := none }) (v := ?_) rfl (by kernel_rfl) (by kernel_rfl) (by kernel_rfl) (fun _ _ _ h => h) (Or.inl ⟨by rfl, ?_⟩) (by assumption) ?_
    rotate_left
    · intro w hSw
      try dsimp only at hSw
      go_simp
      try with_reducible rfl
    try simp only [Act.put, List.setIfInBounds_toArray, List.set_cons_zero, List.set_cons_succ]
    refine wpAnyH_done (by kernel_rfl) ?_ _
    go_wp2
    go_ret2
    exact parse_none_ret HNO.out (blThen HB2.out HB3.out)

end SD
end Go.Proofs.YtjlkgbejldcklaaGreat
