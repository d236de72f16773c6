/- What is outside a set. Conditions: a list of at most a million spans. -/
import Derived.Test.YtolbgpcmpbkmmaaKj
namespace Go.Proofs.Ytolbgpcmpbkmmaa
open Go.RowKit

theorem outF_at {l : List Sp} {k : Nat} {s : Sp} (h : l[k]? = some s) (x : ByteArray) : outF x (l.drop k) = (if ltT x s.1 = true then [(x, s.1)] else []) ++ (if noT s.2 = true then [] else outF s.2 (l.drop (k + 1))) := by
  obtain ⟨h1, rfl⟩ := List.getElem?_eq_some_iff.1 h
  rw [List.drop_eq_getElem_cons h1]
  rfl

theorem box_grown {wr X w' : World} {base : Nat} {v : Value} {d : List Sp} {b : Nat} {s : Sp} (ho : OwnL wr base v d) (hx : Box2 X b s) (hg : X.grownBy w' v.ownBlock) (hb : wr.heap.size ≤ b) : Box2 w' b s :=
  (hg.block b hx.lt (fun e => absurd (ho.blt b e.symm) (by omega))).trans hx
theorem box_under (wr : World) (s : Sp) (o : Obj) : Box2 ((wr.alloc (.cells #[.string s.1, .string s.2] 24)).alloc o) wr.heap.size s :=
  (box2_new wr s).later ((Below.refl _ _).alloc (Nat.le_refl _) _) (by simp)

set_option maxRecDepth 100000 in
set_option maxHeartbeats 2000000 in
theorem outside_any (va : Value) (l : List Sp) (w : World) (hlen : l.length ≤ 1000000) (ha : Sl w va l) :
    Calls Try.prog 37 #[va] w (RetO w (outL l)) := by
  obtain ⟨aa, ca, rfl⟩ := ha.form
  have HA := Lib.hid ha
  clear ha
  go_enter Try.func37, Try.ntmps37
  go_wp2
  go_loopw [3, 4, 9] (fun v f i wr => ∃ (k : Nat) (d : List Sp) (x : ByteArray), k ≤ l.length ∧ i = .int .i64 k ∧ f = .string x ∧ d.length ≤ k ∧ d ++ outF x (l.drop k) = outL l ∧ OwnL wr w.heap.size v d ∧ Below w.heap.size w wr) (fun _ _ i _ => l.length - (intOf i).toNat)
  case atStart => exact ⟨0, [], ⟨#[]⟩, Nat.zero_le _, rfl, rfl, Nat.le_refl _, rfl, OwnL.nil _ _, Below.refl _ _⟩
  case round =>
    obtain ⟨k, d, x, hk, rfl, rfl, hdk, heq, ho, hb⟩ := hrel
    obtain ⟨av, cv, rfl⟩ := ho.form
    have HO := Lib.hid ho
    have HB := Lib.hid hb
    have HE := Lib.hid heq
    clear ho heq
    by_cases hlt : k < l.length
    · obtain ⟨s, hs⟩ := at_lt hlt
      obtain ⟨g, o, rfl, hg, c0, c1⟩ := HA.out.at hs
      replace c0 := cell_in hb hg c0
      replace c1 := cell_in hb hg c1
      have hgw := Nat.lt_of_lt_of_le hg hb.size
      have hE := HE.out
      rw [outF_at hs] at hE
      have HE2 := Lib.hid hE
      clear hs hb hE HE
      cases h1 : ltT x s.1 <;> cases h2 : noT s.2
      · have H1 := Lib.hid h1
        have H2 := Lib.hid h2
        have t1 : Op.bytesLess x.toList s.1.toList = false := h1
        have t2 : s.2.toList.isEmpty = false := h2
        clear h1 h2
        go_wp2
        go_roundw
        case rel => exact ⟨k + 1, d, s.2, hlt, by go_num, rfl, by omega, by have h := HE2.out; rw [H1.out, H2.out] at h; simpa using h, HO.out.later (blAlloc (Below.refl _ _) _), blAlloc HB.out _⟩
        case measure => simp [intOf]; omega
      · have H1 := Lib.hid h1
        have H2 := Lib.hid h2
        have t1 : Op.bytesLess x.toList s.1.toList = false := h1
        have t2 : s.2.toList.isEmpty = true := h2
        clear h1 h2
        go_wp2
        go_ret
        exact ⟨_, rfl, by have h := HE2.out; rw [H1.out, H2.out] at h; simp only [Bool.false_eq_true, if_false, if_true, List.append_nil] at h; rw [← h]; exact HO.out.later (blAlloc (Below.refl _ _) _), blAlloc HB.out _⟩
      · have H1 := Lib.hid h1
        have H2 := Lib.hid h2
        have t1 : Op.bytesLess x.toList s.1.toList = true := h1
        have t2 : s.2.toList.isEmpty = false := h2
        clear h1 h2
        go_wp2_with (at_builtin; refine append_sp rfl (.tmp 17) (.tmp 22) rfl w.heap.size _ _ rfl (HO.out.later (blAlloc (blAlloc (Below.refl _ _) _) _)) _ [(x, s.1)] rfl (one_new _ (x, s.1) _ (by simp)) (by simp; omega) (by have := HB.out.size; simp; omega) ?_; intro v' w' h1 h2; have H3 := Lib.hid h1; have H4 := Lib.hid (grown_below (blAlloc (blAlloc HB.out _) _) (HO.out.later (blAlloc (blAlloc (Below.refl _ _) _) _)) (Nat.le_refl _) (by have := HB.out.size; simp; omega) h2); have hbx := box_grown HO.out (box_under wr s _) h2 (Nat.le_refl _); have hb0 := hbx.c0; have hb1 := hbx.c1; have hbl := hbx.lt; clear h1 h2 hbx)
        go_roundw
        case rel => exact ⟨k + 1, d ++ [(x, s.1)], s.2, hlt, by go_num, rfl, by simp; omega, by have h := HE2.out; rw [H1.out, H2.out] at h; simpa using h, H3.out, H4.out⟩
        case measure => simp [intOf]; omega
      · have H1 := Lib.hid h1
        have H2 := Lib.hid h2
        have t1 : Op.bytesLess x.toList s.1.toList = true := h1
        have t2 : s.2.toList.isEmpty = true := h2
        clear h1 h2
        go_wp2_with (at_builtin; refine append_sp rfl (.tmp 17) (.tmp 22) rfl w.heap.size _ _ rfl (HO.out.later (blAlloc (blAlloc (Below.refl _ _) _) _)) _ [(x, s.1)] rfl (one_new _ (x, s.1) _ (by simp)) (by simp; omega) (by have := HB.out.size; simp; omega) ?_; intro v' w' h1 h2; have H3 := Lib.hid h1; have H4 := Lib.hid (grown_below (blAlloc (blAlloc HB.out _) _) (HO.out.later (blAlloc (blAlloc (Below.refl _ _) _) _)) (Nat.le_refl _) (by have := HB.out.size; simp; omega) h2); have hbx := box_grown HO.out (box_under wr s _) h2 (Nat.le_refl _); have hb0 := hbx.c0; have hb1 := hbx.c1; have hbl := hbx.lt; clear h1 h2 hbx)
        go_ret
        exact ⟨_, rfl, by have h := HE2.out; rw [H1.out, H2.out] at h; simp only [if_true, List.append_nil] at h; rw [← h]; exact H3.out, H4.out⟩
    · obtain rfl : k = l.length := by omega
      have HE3 : Hid (d ++ [(x, ⟨#[]⟩)] = outL l) := by have h := HE.out; rwa [List.drop_length] at h
      clear hb HE
      go_wp2_with (at_builtin; refine append_sp rfl (.tmp 31) (.tmp 34) rfl w.heap.size _ _ rfl (HO.out.later (blAlloc (Below.refl _ _) _)) _ [(x, ⟨#[]⟩)] rfl (one_new _ (x, ⟨#[]⟩) _ (by simp)) (by simp; omega) (by have := HB.out.size; simp; omega) ?_; intro v' w' h1 h2; have H3 := Lib.hid h1; have H4 := Lib.hid (grown_below (blAlloc HB.out _) (HO.out.later (blAlloc (Below.refl _ _) _)) (Nat.le_refl _) (by have := HB.out.size; simp; omega) h2); clear h1 h2)
      go_ret
      exact ⟨_, rfl, by rw [← HE3.out]; exact H3.out, H4.out⟩

end Go.Proofs.Ytolbgpcmpbkmmaa
