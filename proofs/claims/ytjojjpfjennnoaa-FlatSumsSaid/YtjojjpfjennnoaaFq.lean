/- FlatSums: two texts that are unlike in one byte alone have unlike sums: whatever the bytes, the place and the byte, the law returns true and leaves its arguments as they were. Conditions: none. -/
import Derived.Test.YtjojjpfjennnoaaFp
import Derived.Test.YtjojjpfjennnoaaFr
namespace Go.Proofs.Ytjojjpfjennnoaa
open Go.ChangeShapes Go.WideShapes Go.ChangeAt Go.RowKit Go.Joins Go.Deep

/-- A row of bytes, one of which has been written. -/
theorem row_set {w : World} {g : Nat} {v : Value} {l : List UInt8} (h : Row w (some g) v l) (k : Nat) (hk : k < l.length) (y : UInt8) :
    Bs (w.setCell ⟨g, k, none⟩ (bv y)) g v (l.set k y) ∧ (∃ u, w.cell? ⟨g, k, none⟩ = some u) ∧ w.frozen? ⟨g, k, none⟩ = false := by
  rcases h.1.2 with ⟨_, h0⟩ | ⟨b, cap, cur, rfl, hb, hh, hc, hm, hs, ht⟩
  · omega
  · have e : b = g := by have := h.2; simpa [Value.ownBlock] using this
    subst e
    have hget : ∀ (j : Nat) (x : UInt8), l[j]? = some x → cur[j]? = some (bv x) := by
      intro j x hx
      have h1 : cur.toList.take l.length = bvs l := by simpa using ht
      have h2 := bvs_at hx
      have hj := (List.getElem?_eq_some_iff.1 hx).1
      rw [← h1, List.getElem?_take_of_lt hj] at h2
      simpa using h2
    refine ⟨.inr ⟨0, cap, by rw [List.length_set], by rw [List.length_set]; exact hc, hm, fun j x hx => ?_⟩, ⟨_, by rw [cell_of_row w _ _ _ _ _ hh]; exact hget k _ (List.getElem?_eq_getElem hk)⟩, frozen_of_row w _ _ _ _ hh⟩
    rw [Nat.zero_add, cell_of_row _ _ _ _ _ _ (block_setCell hh (bv y))]
    rw [List.getElem?_set] at hx
    by_cases hjk : k = j
    · subst hjk
      rw [if_pos rfl, if_pos hk] at hx
      simp only [Option.some.injEq] at hx
      subst hx
      have : k < cur.size := by omega
      simp [this]
    · rw [if_neg hjk] at hx
      rw [Array.getElem?_setIfInBounds, if_neg hjk]
      exact hget j x hx

theorem row_form {w : World} {g : Nat} {v : Value} {l : List UInt8} (h : Row w (some g) v l) : ∃ cap, v = .slice (some ⟨g, 0, none⟩) l.length cap := by
  rcases h.1.2 with ⟨rfl, _⟩ | ⟨b, cap, cur, rfl, _⟩
  · have := h.2; simp [Value.ownBlock] at this
  · have e : b = g := by have := h.2; simpa [Value.ownBlock] using this
    subst e
    exact ⟨cap, rfl⟩

set_option maxRecDepth 100000 in
set_option maxHeartbeats 4000000 in
theorem flatSums_walk (g : Nat) (v : Value) (l : List UInt8) (n : Int) (y : UInt8) (w : World) (hb : Bw w g v l) :
    Calls Try.prog 6 #[v, .int .i64 n, .int .u8 y.toNat] w fun e w' => e = .returned (.bool true) ∧ Below w.heap.size w w' := by
  obtain ⟨a, c, rfl⟩ := hb.form
  have hmax : l.length ≤ maxLen := by obtain ⟨_, _, _, _, h, _⟩ := hb; exact h
  unfold maxLen at hmax
  have HB := Lib.hid hb
  clear hb
  by_cases hbig : 20000 < l.length
  · go_enter Try.func6, Try.ntmps6
    go_wp2_with (go_at_call 13; refine (live_any _).mono ?_; rintro e w1 ⟨rfl, hb1⟩; have HB1 := Lib.hid hb1; clear hb1)
    go_ret
    exact ⟨rfl, HB1.out⟩
  · by_cases hneg : n < 0
    · go_enter Try.func6, Try.ntmps6
      go_wp2_with (go_at_call 13; refine (live_any _).mono ?_; rintro e w1 ⟨rfl, hb1⟩; have HB1 := Lib.hid hb1; clear hb1)
      go_ret
      exact ⟨rfl, HB1.out⟩
    · by_cases hge : (l.length : Int) ≤ n
      · go_enter Try.func6, Try.ntmps6
        go_wp2_with (go_at_call 13; refine (live_any _).mono ?_; rintro e w1 ⟨rfl, hb1⟩; have HB1 := Lib.hid hb1; clear hb1)
        go_ret
        exact ⟨rfl, HB1.out⟩
      · obtain ⟨k, rfl⟩ := Int.eq_ofNat_of_zero_le (a := n) (by omega)
        have hk : k < l.length := by omega
        obtain ⟨x, hx⟩ := get_lt hk
        obtain ⟨ob, cb, he, cx⟩ := HB.out.at hx
        simp only [Value.slice.injEq, true_and] at he
        obtain ⟨rfl, rfl⟩ := he
        have hgw : g < w.heap.size := HB.out.lt (not_nil hk)
        have HL1 : Hid (([] : List UInt8).length + l.length ≤ 1099511627776) := by show _ ≤ _; simp; omega
        have HST := Lib.hid (sum_set l k x y hx)
        unfold bv at cx
        have hd1 : decide ((20000 : Int) < (l.length : Int)) = false := by simp; omega
        have hd2 : decide ((k : Int) < 0) = false := by simp
        have hd3 : decide ((l.length : Int) ≤ (k : Int)) = false := by simp; omega
        clear hx hbig hneg hge
        have hk' : ¬ l.length ≤ k := by omega
        go_enter Try.func6, Try.ntmps6
        go_wp2_with (at_builtin; refine wpList_app rfl (.tmp 22) (.tmp 23) 27 rfl rfl rfl (row_empty _) (HB.out.keep (S := fun _ => False) (Keeps.alloc _ _ _) (fun _ h => h)).src HL1.out ?_; intro v1 w1 g1 h1' h2 h3; have h1 : Row w1 g1 v1 l := h1'; clear h1'; obtain ⟨g2, rfl⟩ := h1.some_of (not_nil hk); have hg2 : w.heap.size ≤ g2 := (by rcases h3 with h | h; cases h; exact Nat.le_refl _; exact Nat.le_trans (by simp) (h g2 rfl)); obtain ⟨hset, ⟨u, hu⟩, hfz⟩ := row_set h1 k hk y; have hkk := kGrown (S := fun x => w.heap.size ≤ x) (Keeps.alloc _ _ _) h2 (fun k e => by cases e; exact .inl (Nat.le_refl _)); obtain ⟨c1, rfl⟩ := row_form h1; have HR := Lib.hid h1; have HSET := Lib.hid hset; have HK := Lib.hid hkk; clear h1 h2 h3 hset hkk)
        have hW : Keeps (fun x => w.heap.size ≤ x) w (w1.setCell ⟨g2, k, none⟩ (bv y)) := kSet HK.out (.inl hg2) _
        have hB2 : Bw (w1.setCell ⟨g2, k, none⟩ (bv y)) g (.slice (some ⟨g, ob, none⟩) l.length c) l := HB.out.keep hW (fun _ h => by omega)
        have hC2 := HSET.out.bw
        have cx2 : (w1.setCell ⟨g2, k, none⟩ (bv y)).cell? ⟨g, ob + k, none⟩ = some (.int .u8 x.toNat) := hW.cell (fun h => by omega) cx
        have hS2 : Below w.heap.size w (w1.setCell ⟨g2, k, none⟩ (bv y)) := hW.below (Nat.le_refl _) (fun k hk h => by omega)
        have hgl : g < (w1.setCell ⟨g2, k, none⟩ (bv y)).heap.size := Nat.lt_of_lt_of_le hgw hS2.size
        have hgl2 : g2 < (w1.setCell ⟨g2, k, none⟩ (bv y)).heap.size := hC2.lt (not_nil (j := k) (by simpa using hk))
        unfold bv at hW hB2 hC2 cx2 hS2 hgl hgl2
        clear hW hfz hu HK HSET HR
        generalize w1.setCell ⟨g2, k, none⟩ (Value.int .u8 y.toNat) = W at *
        have HBX := Lib.hid fun z : Aft W => hB2.keep (ofB (S := fun k => W.heap.size ≤ k) z.h) (fun _ h => by omega)
        have HCX := Lib.hid fun z : Aft W => hC2.keep (ofB (S := fun k => W.heap.size ≤ k) z.h) (fun _ h => by omega)
        have HS2 := Lib.hid hS2
        clear hB2 hC2 hS2
        by_cases hxy : x = y
        · subst hxy
          have hsame : sumL (l.set k x) = sumL l := (HST.out.2 rfl).symm
          have HSA := Lib.hid hsame
          clear hsame
          refine region_aft (by kernel_rfl) (by kernel_rfl) ?_
          repeat (go_big_quiet_step (first | (go_at_call 22; with_reducible exact aft_same (sum_w _ g _ l (HBX.out _))) | (go_at_call 22; with_reducible exact aft_same (HSA.out ▸ sum_w _ g2 _ _ (HCX.out _))) | (go_at_call 13; exact aft_of (live_any _))))
          refine wpQuiet_nil ?_
          rintro w3 ⟨z, rfl⟩
          go_wp2
          go_ret
          exact ⟨rfl, bThen' HS2.out z.h⟩
        · have hns : ¬ sumL l = sumL (l.set k y) := fun h => hxy (HST.out.1 h)
          have hns1 : (sumL l == sumL (l.set k y)) = false := by simpa using hns
          have hns2 : ¬ (x.toNat : Int) = (y.toNat : Int) := fun h => hxy (UInt8.toNat_inj.1 (by omega))
          have hns3 : ((x.toNat : Int) == (y.toNat : Int)) = false := by simpa using hns2
          refine region_aft (by kernel_rfl) (by kernel_rfl) ?_
          repeat (go_big_quiet_step (first | (go_at_call 22; with_reducible exact aft_same (sum_w _ g _ l (HBX.out _))) | (go_at_call 22; with_reducible exact aft_same (sum_w _ g2 _ (l.set k y) (HCX.out _))) | (go_at_call 22; exact aft_same (sum_w _ g2 _ (l.set k y) (HCX.out _))) | (go_at_call 13; exact aft_of (live_any _))))
          refine wpQuiet_nil ?_
          rintro w3 ⟨z, rfl⟩
          go_wp2
          go_ret
          exact ⟨rfl, bThen' HS2.out z.h⟩

set_option maxRecDepth 100000 in
theorem flatSums_lifted (os : Os) (started : os.Started) (H : Type) (enc : TypeId × Value → H) :
    ReturnsInHanded {} Try.checked os 6 .any (Rows.flatSumsSpec.pre6 enc Try.prog Try.f6 Rows.flatSumsRow.domain false) (Rows.flatSumsSpec.post enc Try.prog Try.f6 false true false false) := by
  refine law_lift (C := Try.checked) own0 started (by kernel_rfl) Try.func6 laid0 rfl (by kernel_rfl) (fun _ _ _ _ => trodAll_mk1 (shut_bool Try.underlying4 true)) (fun ds h => match ds, h with | [_, _, _], _ => ⟨rfl, rfl, rfl⟩)
    (ChangeSpec.witness6 (enc := enc) (C := Try.checked) false ⟨#[], #[.slice none 0 0, .int .i64 0, .int .u8 0], []⟩ 8 (by kernel_rfl) (by kernel_rfl) (by kernel_rfl) (by kernel_rfl)) ?_
  intro W base args ds before hval0 hA0 hlt
  have hval : ∀ (j : Nat) t v, Try.f6.params[j]? = some t → args[j]? = some v → Value.okWide Try.prog W .any base t v := hval0
  have hA : DataW.TrodAll enc Try.prog W 0 (fun _ => true) true Try.f6.params.toList args.toList ds before := hA0
  rw [Try.params6] at hA hval
  obtain ⟨v0, v1, v2, d0, d1, d2, p0, p1, p2, rfl, rfl, rfl, h0, h1, h2⟩ := trodAll_three hA
  obtain ⟨g, l, hb0⟩ := open_bytesv (hval 0 27 v0 rfl rfl) h0
  obtain ⟨n, rfl, rfl, rfl, wn⟩ := open_int Try.underlying3 (hval 1 3 v1 rfl rfl) h1
  obtain ⟨z, rfl, rfl, rfl, wz⟩ := open_int Try.underlying5 (hval 2 5 v2 rfl rfl) h2
  obtain ⟨y, rfl⟩ := byte_wf wz
  exact flatSums_walk g _ l n y W hb0

theorem flatSums_holds : Rows.FlatSumsSaid :=
  OpenClaim.holds_of_wide 6 Try.f6 rfl rfl rfl rfl rfl rfl rfl ⟨rfl, rfl, rfl, rfl, rfl⟩ rfl rfl rfl rfl rfl (by kernel_rfl) Try.func6 (by kernel_rfl)
    (of_decide_eq_true (by kernel_rfl)) (by unfold Func.isWrapper; rw [if_neg (of_decide_eq_false (by kernel_rfl))]; exact ⟨rfl, rfl⟩)
    (fun os started H enc _ => flatSums_lifted os started H enc)

#print axioms flatSums_holds

end Go.Proofs.Ytjojjpfjennnoaa
