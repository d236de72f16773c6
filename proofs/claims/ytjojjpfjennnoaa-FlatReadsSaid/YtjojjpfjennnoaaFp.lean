/- FlatSumOn: the sum of bytes goes on from what it was: whatever the bytes, the law returns true and leaves its arguments as they were. Conditions: none. -/
import Derived.Test.YtjojjpfjennnoaaFz
namespace Go.Proofs.Ytjojjpfjennnoaa
open Go.ChangeShapes Go.WideShapes Go.ChangeAt Go.RowKit Go.Joins Go.Deep

theorem bThen' {w x y : World} (h : Below w.heap.size w x) (k : Below x.heap.size x y) : Below w.heap.size w y := h.trans (k.mono h.size)
theorem bAlloc' {w x : World} (h : Below w.heap.size w x) (o : Obj) : Below w.heap.size w (x.alloc o) := h.alloc h.size o
theorem Bw.form {w : World} {g : Nat} {v : Value} {l : List UInt8} (h : Bw w g v l) : ∃ a c, v = .slice a l.length c := by
  obtain ⟨a, c, hv, _⟩ := h
  exact ⟨a, c, hv⟩
theorem Bw.at {w : World} {g : Nat} {v : Value} {l : List UInt8} (h : Bw w g v l) {j : Nat} {x : UInt8} (hx : l[j]? = some x) : ∃ o c, v = .slice (some ⟨g, o, none⟩) l.length c ∧ w.cell? ⟨g, o + j, none⟩ = some (bv x) := by
  obtain ⟨a, c, hv, _, _, hc⟩ := h
  obtain ⟨o, rfl, hcc⟩ := hc (by rintro rfl; simp at hx)
  exact ⟨o, c, hv, hcc j x hx⟩

set_option maxRecDepth 100000 in
set_option maxHeartbeats 4000000 in
theorem flatSumOn_walk (ga gb : Nat) (va vb : Value) (la lb : List UInt8) (w : World) (ha : Bw w ga va la) (hb : Bw w gb vb lb) (hla : la.length ≤ 140737488355328) (hlb : lb.length ≤ 140737488355328) :
    Calls Try.prog 11 #[va, vb] w fun e w' => e = .returned (.bool true) ∧ Below w.heap.size w w' := by
  obtain ⟨aa, ca, rfl⟩ := ha.form
  obtain ⟨ab, cb, rfl⟩ := hb.form
  have HA := Lib.hid ha
  have HB := Lib.hid hb
  clear ha hb
  by_cases hbig : 20000 < la.length + lb.length
  · have hbigI : (20000 : Int) < (la.length : Int) + (lb.length : Int) := by omega
    go_enter Try.func11, Try.ntmps11
    go_wp2_with (go_at_call 13; refine (live_any _).mono ?_; rintro e w1 ⟨rfl, hb1⟩; have HB1 := Lib.hid hb1; clear hb1)
    go_ret
    exact ⟨rfl, HB1.out⟩
  · have hsmall : la.length + lb.length ≤ 20000 := by omega
    have hsmallI : ¬ (20000 : Int) < (la.length : Int) + (lb.length : Int) := by omega
    go_enter Try.func11, Try.ntmps11
    go_wp2_with (go_at_call 22; refine (sum_w _ ga _ la HA.out).mono ?_; rintro e w1 ⟨rfl, rfl⟩)
    go_loop [5, 6] (fun h i => ∃ j : Nat, j ≤ lb.length ∧ i = .int .i64 j ∧ h = .int .u64 (sumL (la ++ lb.take j))) (fun _ i => lb.length - (intOf i).toNat)
    case atStart => exact ⟨0, Nat.zero_le _, rfl, by simp⟩
    case round =>
      obtain ⟨j, hj, rfl, rfl⟩ := hrel
      by_cases hlt : j < lb.length
      · obtain ⟨x, hx⟩ := get_lt hlt
        obtain ⟨o, c, he, cx⟩ := HB.out.at hx
        simp only [Value.slice.injEq, true_and] at he
        obtain ⟨rfl, rfl⟩ := he
        unfold bv at cx
        have HS : Hid (sumL (la ++ lb.take (j + 1)) = sumStep (sumL (la ++ lb.take j)) x) := by show _ = _; rw [take_snoc' hx, ← List.append_assoc, sumL_snoc]
        clear hx
        go_wp2_with fail
        go_round
        case rel => exact ⟨j + 1, hlt, by go_num, by rw [HS.out]; rfl⟩
        case measure => simp [intOf]; omega
      · obtain rfl : j = lb.length := by omega
        have HT : Hid (la ++ lb.take lb.length = la ++ lb) := by show _ = _; rw [List.take_length]
        rw [HT.out]
        have hl1 : ([] : List UInt8).length + la.length ≤ 1099511627776 := by simp; omega
        have hl2 : ([] ++ la).length + lb.length ≤ 1099511627776 := by simp; omega
        have hnil : sumL [] = 14695981039346656037 := rfl
        have HNIL := Lib.hid hnil
        have HLL : Hid ([] ++ la ++ lb = la ++ lb) := rfl
        have HL1 := Lib.hid hl1
        have HL2 := Lib.hid hl2
        clear hnil hl1 hl2 hbig
        go_wp2_with (first
          | (at_builtin; refine wpList_app rfl (.tmp 30) (.tmp 31) 27 rfl rfl rfl (row_empty _) (HA.out.keep (S := fun _ => False) (Keeps.alloc _ _ _) (fun _ h => h)).src HL1.out ?_; intro v1 w1 g1 h1 h2 h3; have H1 := Lib.hid h1; have HN1 : Hid (∀ k, g1 = some k → w.heap.size ≤ k) := (fun k e => by rcases h3 with h | h; rw [h] at e; cases e; exact Nat.le_refl _; exact Nat.le_trans (by simp) (h k e)); have HK1 := Lib.hid (kGrown (S := fun x => w.heap.size ≤ x) (Keeps.alloc _ _ _) h2 (fun k e => by cases e; exact .inl (Nat.le_refl _))); clear h1 h2 h3)
          | (at_builtin; refine wpList_app rfl (.tmp 32) (.tmp 33) 27 rfl rfl rfl H1.out (HB.out.keep HK1.out (fun hne h => absurd (HB.out.lt hne) (by omega))).src HL2.out ?_; intro v2 w2 g2 h1 h2 h3; obtain ⟨a2, n2, c2, rfl⟩ := h1.form; have H2 := Lib.hid h1.bs.bw; have HB2 := Lib.hid ((HK1.out.below (Nat.le_refl _) (fun k hk h => absurd h (by omega))).grown h2 HK1.out.size HN1.out); clear h1 h2 h3)
          | fail)
        refine (sum_w _ (g2.getD 0) _ _ H2.out).mono ?_
        rintro e w' ⟨rfl, rfl⟩
        rw [HLL.out]
        go_wp2_with fail
        refine (sum_w _ 0 _ [] ⟨none, 0, rfl, fun _ => ⟨rfl, rfl⟩, Nat.zero_le _, fun h => absurd rfl h⟩).mono ?_
        rintro e w' ⟨rfl, rfl⟩
        rw [HNIL.out]
        go_wp2_with (go_at_call 13; refine (live_any _).mono ?_; rintro e w3 ⟨rfl, hb1⟩; have HB3 := Lib.hid hb1; clear hb1)
        go_ret
        exact ⟨rfl, bThen' HB2.out HB3.out⟩

set_option maxRecDepth 100000 in
theorem flatSumOn_lifted (os : Os) (started : os.Started) (H : Type) (enc : TypeId × Value → H) :
    ReturnsInHanded {} Try.checked os 11 .any (Rows.flatSumOnSpec.pre6 enc Try.prog Try.f11 Rows.flatSumOnRow.domain false) (Rows.flatSumOnSpec.post enc Try.prog Try.f11 false true false false) := by
  refine law_lift_sized (C := Try.checked) own0 started (by kernel_rfl) Try.func11 laid0 rfl (by kernel_rfl) (fun _ _ _ _ => trodAll_mk1 (shut_bool Try.underlying4 true)) (fun ds h => match ds, h with | [_, _], _ => ⟨rfl, rfl, rfl⟩)
    (ChangeSpec.witness6 (enc := enc) (C := Try.checked) false ⟨#[], #[.slice none 0 0, .slice none 0 0], []⟩ 8 (by kernel_rfl) (by kernel_rfl) (by kernel_rfl) (by kernel_rfl)) ?_
  intro W base args ds before hval0 hA0 hlt hsz
  have hval : ∀ (j : Nat) t v, Try.f11.params[j]? = some t → args[j]? = some v → Value.okWide Try.prog W .any base t v := hval0
  have hA : DataW.TrodAll enc Try.prog W 0 (fun _ => true) true Try.f11.params.toList args.toList ds before := hA0
  rw [Try.params11] at hA hval
  obtain ⟨v0, v1, d0, d1, p0, p1, rfl, rfl, rfl, h0, h1⟩ := trodAll_two hA
  obtain ⟨ga, la, hb0⟩ := open_bytesv (hval 0 27 v0 rfl rfl) h0
  obtain ⟨gb, lb, hb1⟩ := open_bytesv (hval 1 27 v1 rfl rfl) h1
  exact flatSumOn_walk ga gb _ _ la lb W hb0 hb1 (bw_reach hb0 h0 hsz (j := 0) (by kernel_rfl) rfl) (bw_reach hb1 h1 hsz (j := 1) (by kernel_rfl) rfl)

theorem flatSumOn_holds : Rows.FlatSumOnSaid :=
  OpenClaim.holds_of_wide 11 Try.f11 rfl rfl rfl rfl rfl rfl rfl ⟨rfl, rfl, rfl, rfl, rfl⟩ rfl rfl rfl rfl rfl (by kernel_rfl) Try.func11 (by kernel_rfl)
    (of_decide_eq_true (by kernel_rfl)) (by unfold Func.isWrapper; rw [if_neg (of_decide_eq_false (by kernel_rfl))]; exact ⟨rfl, rfl⟩)
    (fun os started H enc _ => flatSumOn_lifted os started H enc)

#print axioms flatSumOn_holds

end Go.Proofs.Ytjojjpfjennnoaa
