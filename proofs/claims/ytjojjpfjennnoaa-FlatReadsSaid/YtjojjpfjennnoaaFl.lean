/- live, the closed check that every statement of this stage ends with, returns true. Conditions: none. -/
import Derived.Test.YtjojjpfjennnoaaFhs
import Derived.Lib.SlBytesConst
namespace Go.Proofs.Ytjojjpfjennnoaa
open Go.RowKit

theorem text_new (w : World) (s : ByteArray) (b : Nat) (hb : b = w.heap.size) (W : World) (hW : W.heap = (w.alloc (.cells #[.string s] 9)).heap) : TL W b (some ⟨b, 0, none⟩) [s] := by
  subst hb
  have h : W.heap[w.heap.size]? = some (.cells #[.string s] 9 (0, 0)) := by rw [hW]; exact heap_alloc_new w _
  intro _
  refine ⟨0, rfl, fun j z hz => ?_⟩
  rw [cell_of_row W _ _ _ _ _ h]
  match j, hz with
  | 0, hz => simp at hz; simp [hz]
/-- Bytes that a text's conversion has laid. -/
theorem bs_const (w : World) (l : List UInt8) (C : Array Value) (hC : C = (bvs l).toArray) (p : Nat × Nat) (b : Nat) (hb : b = w.heap.size) (n : Nat) (hn : n = l.length) (hl : l.length ≤ maxLen) (W : World) (hW : W.heap = (w.alloc (.cells C 5 p)).heap) : Bs W b (.slice (some ⟨b, 0, none⟩) n n) l := by
  subst hb hn hC
  have h : W.heap[w.heap.size]? = some (.cells (bvs l).toArray 5 p) := by rw [hW]; exact heap_alloc_new w _
  refine .inr ⟨0, l.length, rfl, Nat.le_refl _, hl, fun j x hx => ?_⟩
  rw [cell_of_row W _ _ _ _ _ h]
  simpa using bvs_at hx
def penB : List UInt8 := [254, 255, 255, 255, 255, 255, 255, 255, 2, 0, 0, 0, 97, 98]
theorem penB_eq : [] ++ [(-2 : Int)].flatMap i8 ++ [(⟨#[97, 98]⟩ : ByteArray)].flatMap tx = penB := by decide +kernel

theorem PenStep.below {B b : Nat} {r r' : Option Nat} {x y : World} (h : PenStep b r r' x y) (hB : B ≤ x.heap.size) (hb : B ≤ b) (hr : ∀ k, r = some k → B ≤ k) : Below B x y :=
  h.keeps.below hB fun k hk hs => by
    rcases hs with rfl | hs
    · omega
    · have := hr k hs; omega
theorem PenStep.from {B b : Nat} {r r' : Option Nat} {x y : World} (h : PenStep b r r' x y) (hB : B ≤ x.heap.size) (hr : ∀ k, r = some k → B ≤ k) : ∀ k, r' = some k → B ≤ k := by
  intro k hk
  rcases h.row with e | e
  · exact hr k (by rw [← e]; exact hk)
  · exact Nat.le_trans hB (e k hk)
theorem ofB {S : Nat → Prop} {x y : World} (h : Below x.heap.size x y) : Keeps S x y := .ofBelow h
theorem onlyB {B b : Nat} {x y : World} (h : Keeps (Only b) x y) (hB : B ≤ x.heap.size) (hb : B ≤ b) : Below B x y := h.below hB fun k hk hs => by have : k = b := hs; omega
theorem noneB {B : Nat} {x y : World} (h : Keeps (fun _ => False) x y) (hB : B ≤ x.heap.size) : Below B x y := h.below hB fun _ _ hs => hs

theorem live_int (w : World) (b g : Nat) (he : EyeAt w b g penB false) : Calls Try.prog 24 #[.pointer (some ⟨b, 0, none⟩)] w (Seen w b g false (.int .i64 (-2)) [2, 0, 0, 0, 97, 98]) := by
  have h := eyeInt_any w b g penB false he
  rwa [show okI penB false = true from by decide +kernel, show valI penB false = -2 from by decide +kernel, show behind true 8 penB = [2, 0, 0, 0, 97, 98] from by decide +kernel] at h
theorem live_text (w : World) (b g : Nat) (he : EyeAt w b g [2, 0, 0, 0, 97, 98] false) : Calls Try.prog 26 #[.pointer (some ⟨b, 0, none⟩)] w (Seen w b g false (.string ⟨#[97, 98]⟩) []) := by
  have h := eyeText_any w b g [2, 0, 0, 0, 97, 98] false he
  rwa [show okT [2, 0, 0, 0, 97, 98] false = true from by decide +kernel, show valT [2, 0, 0, 0, 97, 98] false = ⟨#[97, 98]⟩ from by decide +kernel, show behind true (4 + leN (List.take 4 [2, 0, 0, 0, 97, 98])) [2, 0, 0, 0, 97, 98] = [] from by decide +kernel] at h
theorem live_none (w : World) (b g : Nat) (he : EyeAt w b g [2, 0, 0, 0, 97] false) : Calls Try.prog 26 #[.pointer (some ⟨b, 0, none⟩)] w (Seen w b g true (.string ⟨#[]⟩) [2, 0, 0, 0, 97]) := by
  have h := eyeText_any w b g [2, 0, 0, 0, 97] false he
  rwa [show okT [2, 0, 0, 0, 97] false = false from by decide +kernel, show valT [2, 0, 0, 0, 97] false = ⟨#[]⟩ from by decide +kernel, show behind false (4 + leN (List.take 4 [2, 0, 0, 0, 97])) [2, 0, 0, 0, 97] = [2, 0, 0, 0, 97] from by decide +kernel] at h
theorem sum_a : sumL [97] = 12638187200555641996 := by decide +kernel

set_option maxRecDepth 100000 in
set_option maxHeartbeats 2000000 in
theorem live_any (w : World) : Calls Try.prog 13 #[] w fun e w' => e = .returned (.bool true) ∧ Below w.heap.size w w' := by
  have kc := fun (w : World) (C : Array Value) (n c : Nat) => Lib.run_convert_bytes_const (P := Try.prog) w 27 5 C n c Try.underlying27 Try.underlying5
  go_enter Try.func13, Try.ntmps13
  go_wp2_with fail
  have hp0 := pen_new w
  refine (int_any _ w.heap.size none [] (w.heap.size + 1) _ 1 [-2] (hp0.before (Keeps.alloc _ _ _)) (one_new (w.alloc (.cells #[.slice none 0 0] 32)) (-2) _ (by simp) _ rfl) (hp0.apart (by simp)) (by simp)).mono ?_
  rintro e w1 ⟨rfl, r1, hp1, hs1⟩
  have HP1 := Lib.hid hp1
  have HR1 := Lib.hid (hs1.from (B := w.heap.size) (by simp; omega) (fun _ h => by cases h))
  have HS1 : Hid (Below w.heap.size w w1) := (((Below.refl _ _).alloc (Nat.le_refl _) _).alloc (by simp) _).trans (hs1.below (by simp; omega) (Nat.le_refl _) (fun _ h => by cases h))
  clear hp0 hp1 hs1
  go_wp2_with fail
  refine (text_any _ w.heap.size r1 _ w1.heap.size _ 1 [⟨#[97, 98]⟩] (HP1.out.before (Keeps.alloc _ _ _)) (text_new w1 ⟨#[97, 98]⟩ _ rfl _ rfl) (HP1.out.apart (Nat.le_refl _)) (fun j s h => ?_) (by simp) (by decide +kernel)).mono ?_
  · match j, h with
    | 0, h => simp at h; subst h; decide
  rintro e w2 ⟨rfl, r2, hp2, hs2⟩
  rw [penB_eq] at hp2
  have HP2 := Lib.hid hp2
  have HS2 : Hid (Below w.heap.size w w2) := (HS1.out.alloc HS1.out.size _).trans (hs2.below (by have := HS1.out.size; simp; omega) (Nat.le_refl _) HR1.out)
  clear hp2 hs2
  go_wp2_with fail
  refine (bytes_any w2 w.heap.size r2 penB HP2.out (by decide)).mono ?_
  rintro e w3 ⟨v, g, rfl, hr3, hn3, hb3⟩
  obtain ⟨va, vn, vc, rfl⟩ := hr3.form
  have HB3 := Lib.hid hr3.bs
  have HS3 : Hid (Below w.heap.size w w3) := HS2.out.trans (hb3.mono HS2.out.size)
  clear hr3 hn3 hb3
  go_wp2_with fail
  refine (open_any w3 (g.getD 0) _ penB HB3.out (by decide)).mono ?_
  rintro e w4 ⟨b1, g1, rfl, he4, hb4, hg4, hbel4⟩
  have HE4 := Lib.hid he4
  have HS4 : Hid (Below w.heap.size w w4) := HS3.out.trans (hbel4.mono HS3.out.size)
  have hb1 : w.heap.size ≤ b1 := Nat.le_trans HS3.out.size hb4
  have hstr0 := (HB3.out.keep (ofB (S := fun _ => False) hbel4) (fun _ h => h)).str
  have hstr : (convert 27 9 (.slice va vn vc)).run Try.prog w4 = .ok (.string { data := #[254, 255, 255, 255, 255, 255, 255, 255, 2, 0, 0, 0, 97, 98] }) w4 := hstr0
  clear hstr0
  clear he4 hbel4 hb4 hg4
  go_wp2_with fail
  clear hstr
  refine (open_any _ w4.heap.size _ [2, 0, 0, 0, 97] (bs_const w4 [2, 0, 0, 0, 97] _ rfl (5, 6) _ rfl 5 rfl (by decide) _ rfl) (by decide)).mono ?_
  rintro e w5 ⟨b2, g2, rfl, he5, hb5, hg5, hbel5⟩
  have HE5 := Lib.hid (HE4.out.before ((Keeps.alloc _ _ _).then (ofB hbel5)))
  have HF5 := Lib.hid he5
  have hne : ¬ Only b1 b2 := fun h => by have e : b2 = b1 := h; have := HE4.out.lt; simp at hb5; omega
  have hneg : ([2, 0, 0, 0, 97] : List UInt8) ≠ [] → ¬ Only b1 g2 := fun h h' => by have e : g2 = b1 := h'; have := HE4.out.lt; have := hg5 h; simp at this; omega
  have HS5 : Hid (Below w.heap.size w w5) := (HS4.out.alloc HS4.out.size _).trans (hbel5.mono (by have := HS4.out.size; simp; omega))
  have hb2 : w.heap.size ≤ b2 := by have := HS4.out.size; simp at hb5; omega
  have HNE := Lib.hid hne
  have HNG := Lib.hid hneg
  clear he5 hb5 hg5 hbel5 hne hneg
  go_wp2_with fail
  refine (live_int w5 b1 g1 HE5.out).mono ?_
  rintro e w6 ⟨rfl, he6, hk6⟩
  have HE6 := Lib.hid he6
  have HF6 := Lib.hid (HF5.out.keep hk6 HNE.out HNG.out)
  have HS6 : Hid (Below w.heap.size w w6) := HS5.out.trans (onlyB hk6 HS5.out.size hb1)
  clear he6 hk6
  go_wp2_with fail
  refine (live_text w6 b1 g1 HE6.out).mono ?_
  rintro e w7 ⟨rfl, he7, hk7⟩
  have HE7 := Lib.hid he7
  have HF7 := Lib.hid (HF6.out.keep hk7 HNE.out HNG.out)
  have HS7 : Hid (Below w.heap.size w w7) := HS6.out.trans (onlyB hk7 HS6.out.size hb1)
  clear he7 hk7
  go_wp2_with (first | (go_at_call 37; refine (done_any _ b1 g1 [] false HE7.out).mono ?_; rintro e w' ⟨rfl, rfl⟩) | (go_at_call 36; refine (num_any _ _).mono ?_; rintro e w' ⟨rfl, rfl⟩))
  refine (live_none w7 b2 g2 HF7.out).mono ?_
  rintro e w8 ⟨rfl, he8, hk8⟩
  have HF8 := Lib.hid he8
  have HS8 : Hid (Below w.heap.size w w8) := HS7.out.trans (onlyB hk8 HS7.out.size hb2)
  clear he8 hk8
  have hd : doneN [2, 0, 0, 0, 97] true = 20 := rfl
  have hl : (([2, 0, 0, 0, 97] : List UInt8).length : Int) = 5 := rfl
  have hsum := sum_a
  go_wp2_with (first | (go_at_call 37; refine (done_any _ b2 g2 [2, 0, 0, 0, 97] true HF8.out).mono ?_; rintro e w' ⟨rfl, rfl⟩; rw [hd]) | (go_at_call 36; refine (num_any _ _).mono ?_; rintro e w' ⟨rfl, rfl⟩) | (go_at_call 35; refine (left_any _ b2 g2 [2, 0, 0, 0, 97] true HF8.out).mono ?_; rintro e w' ⟨rfl, rfl⟩; rw [hl]) | (go_at_call 22; refine (sum_any _ w8.heap.size _ [97] (bs_const w8 [97] _ rfl (1, 2) _ rfl 1 rfl (by decide) _ rfl)).mono ?_; rintro e w' ⟨rfl, rfl⟩; rw [hsum]))
  go_ret
  exact ⟨rfl, HS8.out.alloc HS8.out.size _⟩

end Go.Proofs.Ytjojjpfjennnoaa
