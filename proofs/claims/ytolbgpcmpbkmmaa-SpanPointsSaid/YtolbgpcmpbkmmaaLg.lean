/- SpanPoints: the set of the points of texts has just these texts; whatever the texts, the law returns true and leaves its arguments as they were. Conditions: none. -/
import Derived.Test.YtolbgpcmpbkmmaaKw
set_option linter.unusedVariables false
set_option linter.unusedSimpArgs false
namespace Go.Proofs.Ytolbgpcmpbkmmaa
open Go.ChangeShapes Go.WideShapes Go.ChangeAt Go.RowKit Go.Joins Go.Deep

/-- The points of texts. -/
def ptsL (l : List ByteArray) : List Sp := l.map fun t => (t, t ++ ⟨#[0]⟩)
/-- Whether one of the first j is k. -/
def isB (l : List ByteArray) (k : ByteArray) (j : Nat) : Bool := (l.take j).any fun t => t.toList == k.toList
theorem pts_step {l : List ByteArray} {j : Nat} {t : ByteArray} (h : l[j]? = some t) : ptsL (l.take (j + 1)) = ptsL (l.take j) ++ [(t, t ++ ⟨#[0]⟩)] := by
  unfold ptsL
  rw [List.take_add_one, h, List.map_append]
  rfl
theorem is_step {l : List ByteArray} {k : ByteArray} {j : Nat} {t : ByteArray} (h : l[j]? = some t) : isB l k (j + 1) = (isB l k j || (t.toList == k.toList)) := by
  unfold isB
  rw [List.take_add_one, h]
  simp
theorem is_all {l : List ByteArray} {t : ByteArray} (h : t ∈ l) : isB l t l.length = true := by
  unfold isB
  rw [List.take_length]
  exact List.any_eq_true.2 ⟨t, h, by simp⟩
theorem inS_point (t k : ByteArray) : inS (t, t ++ ⟨#[0]⟩) k = (t.toList == k.toList) := by
  show (!ltT k t && (noT (t ++ ⟨#[0]⟩) || ltT k (t ++ ⟨#[0]⟩))) = _
  rw [noT_next, lt_next]
  cases h1 : ltT k t
  · cases h2 : ltT t k
    · rw [lt_total h1 h2]
      simp
    · have : t.toList ≠ k.toList := by
        intro e
        rw [text_ext e, lt_irrefl] at h2
        cases h2
      simp [this]
  · have : t.toList ≠ k.toList := by
      intro e
      rw [text_ext e, lt_irrefl] at h1
      cases h1
    simp [this]
theorem pts_mem (l : List ByteArray) (k : ByteArray) : memL (ptsL l) k = isB l k l.length := by
  unfold memL ptsL isB
  rw [List.take_length, List.any_map]
  congr 1
  funext t
  exact inS_point t k

set_option maxRecDepth 100000 in
set_option maxHeartbeats 8000000 in
theorem spanPoints_walk (vl : Value) (ll : List ByteArray) (k : ByteArray) (w : World) (hsl : Tl w vl ll) (hre : ∀ (j : Nat) (s : ByteArray), ll[j]? = some s → s.size ≤ 140737488355328) :
    Calls Try.prog 7 #[vl, .string k] w fun e w' => e = .returned (.bool true) ∧ Below w.heap.size w w' := by
  obtain ⟨al, cl, rfl⟩ := hsl.form
  have HSl := Lib.hid hsl
  have HRE := Lib.hid hre
  have HB := Lib.hid (Below.refl w.heap.size w)
  clear hsl hre
  go_enter Try.func7, Try.ntmps7
  by_cases hbig : 30 < ll.length
  · have hbigI : (30 : Int) < (ll.length : Int) := by omega
    have hd : decide ((30 : Int) < (ll.length : Int)) = true := decide_eq_true hbigI
    go_wp2_with fail
    refine (live_any _).mono ?_
    rintro e _ ⟨rfl, hb⟩
    go_wp2
    go_ret
    exact ⟨rfl, blThen HB.out hb⟩
  have hbigI : ¬ (30 : Int) < (ll.length : Int) := by omega
  have hd : decide ((30 : Int) < (ll.length : Int)) = false := decide_eq_false hbigI
  by_cases hk : 4000 < k.size
  · have hkI : (4000 : Int) < (k.size : Int) := by omega
    have hd2 : decide ((4000 : Int) < (k.size : Int)) = true := decide_eq_true hkI
    go_wp2_with fail
    refine (live_any _).mono ?_
    rintro e _ ⟨rfl, hb⟩
    go_wp2
    go_ret
    exact ⟨rfl, blThen HB.out hb⟩
  have hkI : ¬ (4000 : Int) < (k.size : Int) := by omega
  have hd2 : decide ((4000 : Int) < (k.size : Int)) = false := decide_eq_false hkI
  go_wp2
  go_loopw [5, 6, 7, 8] (fun p b n i wr => ∃ j m : Nat, j ≤ ll.length ∧ i = .int .i64 j ∧ n = .int .i64 m ∧ m ≤ 4000 ∧ b = .bool (isB ll k j) ∧ OwnL wr w.heap.size p (ptsL (ll.take j)) ∧ Below w.heap.size w wr) (fun _ _ _ i _ => ll.length - (intOf i).toNat)
  case atStart => exact ⟨0, 0, Nat.zero_le _, rfl, rfl, by decide, rfl, OwnL.nil _ _, Below.refl _ _⟩
  case round =>
    obtain ⟨j, m, hj, rfl, rfl, hm, rfl, ho, hb⟩ := hrel
    obtain ⟨ap, cp, rfl⟩ := ho.form
    have HO := Lib.hid ho
    replace HB := Lib.hid hb
    clear ho
    by_cases hlt : j < ll.length
    · obtain ⟨t, ht⟩ := at_lt hlt
      obtain ⟨gl, ol, rfl, hgl, ct0⟩ := HSl.out.at ht
      have ct := cell_in hb hgl ct0
      have hglw := Nat.lt_of_lt_of_le hgl hb.size
      have HCT := Lib.hid ct0
      have hts := HRE.out j t ht
      have hj0 : (0 : Int) ≤ (j : Int) := by omega
      have hj1 : (j : Int) < (ll.length : Int) := by omega
      have hdj : decide ((j : Int) < (ll.length : Int)) = true := decide_eq_true hj1
      have HT := Lib.hid ht
      clear ht hb ct0
      by_cases hn : 4000 < m + t.size
      · have hnI : (4000 : Int) < (m : Int) + (t.size : Int) := by omega
        have hdn : decide ((4000 : Int) < (m : Int) + (t.size : Int)) = true := decide_eq_true hnI
        go_wp2_with fail
        refine (live_any _).mono ?_
        rintro e _ ⟨rfl, hb⟩
        go_wp2
        go_ret
        exact ⟨rfl, blThen HB.out hb⟩
      have hnI : ¬ (4000 : Int) < (m : Int) + (t.size : Int) := by omega
      have hdn : decide ((4000 : Int) < (m : Int) + (t.size : Int)) = false := decide_eq_false hnI
      have HPL : Hid ((ptsL (ll.take j)).length ≤ j) := by show _ ≤ _; unfold ptsL; simp; omega
      have HPS := Lib.hid (pts_step HT.out)
      have HIS := Lib.hid (is_step (k := k) HT.out)
      go_wp2_with fail
      refine (point_any t _ (by omega)).mono ?_
      rintro e w2 ⟨rfl, hb⟩
      have HO2 := Lib.hid (HO.out.later hb)
      have HB2 := Lib.hid (blThen HB.out hb)
      clear hb ct hglw HO
      generalize isB ll k j = b at *
      cases b
      · go_wp2_with (at_builtin; refine append_sp rfl _ _ rfl _ _ (ptsL (ll.take j)) rfl (HO2.out.later (blAlloc (Below.refl _ _) _)) _ [(t, t ++ ⟨#[0]⟩)] rfl (one_new _ (t, t ++ ⟨#[0]⟩) _ (by simp)) (by have := HPL.out; simp only [List.length_singleton]; omega) (by have := HB2.out.size; simp; omega) ?_; intro v1 w1 h1 h2; have H1 := Lib.hid h1; have H2 := Lib.hid (grown_below (blAlloc HB2.out _) (HO2.out.later (blAlloc (Below.refl _ _) _)) (Nat.le_refl _) (by have := HB2.out.size; simp; omega) h2); have ct3 := cell_in H2.out hgl HCT.out; have hg3 := Nat.lt_of_lt_of_le hgl H2.out.size; clear h1 h2)
        go_roundw
        case rel => exact ⟨j + 1, m + t.size, hlt, by go_num, by go_num, by omega, by rw [HIS.out]; rfl, by rw [HPS.out]; exact H1.out, H2.out⟩
        case measure => simp [intOf]; omega
      · go_wp2_with (at_builtin; refine append_sp rfl _ _ rfl _ _ (ptsL (ll.take j)) rfl (HO2.out.later (blAlloc (Below.refl _ _) _)) _ [(t, t ++ ⟨#[0]⟩)] rfl (one_new _ (t, t ++ ⟨#[0]⟩) _ (by simp)) (by have := HPL.out; simp only [List.length_singleton]; omega) (by have := HB2.out.size; simp; omega) ?_; intro v1 w1 h1 h2; have H1 := Lib.hid h1; have H2 := Lib.hid (grown_below (blAlloc HB2.out _) (HO2.out.later (blAlloc (Below.refl _ _) _)) (Nat.le_refl _) (by have := HB2.out.size; simp; omega) h2); have ct3 := cell_in H2.out hgl HCT.out; have hg3 := Nat.lt_of_lt_of_le hgl H2.out.size; clear h1 h2)
        go_roundw
        case rel => exact ⟨j + 1, m + t.size, hlt, by go_num, by go_num, by omega, by rw [HIS.out]; rfl, by rw [HPS.out]; exact H1.out, H2.out⟩
        case measure => simp [intOf]; omega
    · obtain rfl : j = ll.length := by omega
      have hdj : decide ((ll.length : Int) < (ll.length : Int)) = false := by simp
      replace HO : Hid (OwnL wr w.heap.size (.slice ap (ptsL ll).length cp) (ptsL ll)) := by have h := HO.out; rw [List.take_length] at h; exact h
      have HPL : Hid ((ptsL ll).length ≤ 30) := by show _ ≤ _; unfold ptsL; simp; omega
      rw [List.take_length]
      replace HSl := Lib.hid (HSl.out.later hb)
      clear hb
      go_wp2_with fail
      refine (union_any _ (ptsL ll) _ (Nat.le_trans HPL.out (by decide)) HO.out.sl).mono ?_
      rintro e W2 ⟨_, rfl, ho, hb⟩
      obtain ⟨au, cu, rfl⟩ := ho.form
      replace HB := Lib.hid (blThen HB.out hb)
      replace HSl := Lib.hid (HSl.out.later hb)
      have HSu := Lib.hid ho.sl
      clear ho hb HO
      have HU : Hid (∀ x, memL (uniL (ptsL ll)) x = isB ll x ll.length) := fun x => by rw [uniL_mem, pts_mem]
      have HSET := Lib.hid (uniL_set (ptsL ll))
      have HLU := Lib.hid (Nat.le_trans (uniL_len (ptsL ll)) HPL.out)
      generalize uniL (ptsL ll) = u at *
      go_wp2
      go_loopw [10] (fun i wr2 => ∃ q : Nat, q ≤ ll.length ∧ i = .int .i64 q ∧ Below W2.heap.size W2 wr2) (fun i _ => ll.length - (intOf i).toNat)
      case atStart => exact ⟨0, Nat.zero_le _, rfl, Below.refl _ _⟩
      case round =>
        rename_i wr2
        obtain ⟨q, hq, rfl, hbr⟩ := hrel
        have HBR := Lib.hid hbr
        replace HSu := Lib.hid (HSu.out.later hbr)
        by_cases hlt2 : q < ll.length
        · obtain ⟨t, ht⟩ := at_lt hlt2
          obtain ⟨gl, ol, rfl, hgl, ct0⟩ := HSl.out.at ht
          have ct := cell_in hbr hgl ct0
          have hglw := Nat.lt_of_lt_of_le hgl hbr.size
          have hq0 : (0 : Int) ≤ (q : Int) := by omega
          have hq1 : (q : Int) < (ll.length : Int) := by omega
          have hdq : decide ((q : Int) < (ll.length : Int)) = true := decide_eq_true hq1
          have HM : Hid (memL u t = true) := (HU.out t).trans (is_all (List.mem_of_getElem? ht))
          clear ht hbr ct0
          go_wp2_with fail
          refine (has_any _ u t _ (Nat.le_trans HLU.out (by decide)) HSu.out HSET.out).mono ?_
          rintro e w3 ⟨rfl, hb⟩
          rw [HM.out]
          have HB3 := Lib.hid (blThen HBR.out hb)
          clear hb ct hglw
          go_wp2
          go_roundw
          case rel => exact ⟨q + 1, hlt2, by go_num, HB3.out⟩
          case measure => simp [intOf]; omega
        · obtain rfl : q = ll.length := by omega
          have hdq : decide ((ll.length : Int) < (ll.length : Int)) = false := by simp
          replace HB := Lib.hid (blThen HB.out hbr)
          have HMK := Lib.hid (HU.out k)
          clear hbr
          generalize isB ll k ll.length = b at *
          cases b
          · go_wp2_with fail
            refine (has_any _ u k _ (Nat.le_trans HLU.out (by decide)) HSu.out HSET.out).mono ?_
            rintro e _ ⟨rfl, hb⟩
            replace HB := Lib.hid (blThen HB.out hb)
            replace HSu := Lib.hid (HSu.out.later hb)
            clear hb
            rw [HMK.out]
            go_wp2_with fail
            refine (refset_any _ u _ (Nat.le_trans HLU.out (by decide)) HSu.out).mono ?_
            rintro e _ ⟨rfl, hb⟩
            replace HB := Lib.hid (blThen HB.out hb)
            replace HSu := Lib.hid (HSu.out.later hb)
            clear hb
            rw [show sameB (uniL u) u = true by rw [uniL_self HSET.out]; simp [sameB]]
            go_wp2_with fail
            refine (live_any _).mono ?_
            rintro e _ ⟨rfl, hb⟩
            go_wp2
            go_ret
            exact ⟨rfl, blThen HB.out hb⟩
          · go_wp2_with fail
            refine (has_any _ u k _ (Nat.le_trans HLU.out (by decide)) HSu.out HSET.out).mono ?_
            rintro e _ ⟨rfl, hb⟩
            replace HB := Lib.hid (blThen HB.out hb)
            replace HSu := Lib.hid (HSu.out.later hb)
            clear hb
            rw [HMK.out]
            go_wp2_with fail
            refine (refset_any _ u _ (Nat.le_trans HLU.out (by decide)) HSu.out).mono ?_
            rintro e _ ⟨rfl, hb⟩
            replace HB := Lib.hid (blThen HB.out hb)
            replace HSu := Lib.hid (HSu.out.later hb)
            clear hb
            rw [show sameB (uniL u) u = true by rw [uniL_self HSET.out]; simp [sameB]]
            go_wp2_with fail
            refine (live_any _).mono ?_
            rintro e _ ⟨rfl, hb⟩
            go_wp2
            go_ret
            exact ⟨rfl, blThen HB.out hb⟩

set_option maxRecDepth 100000 in
theorem spanPoints_lifted (os : Os) (started : os.Started) (H : Type) (enc : TypeId × Value → H) :
    ReturnsInHanded {} Try.checked os 7 .any (Rows.spanPointsSpec.pre6 enc Try.prog Try.f7 Rows.spanPointsRow.domain false) (Rows.spanPointsSpec.post enc Try.prog Try.f7 false true false false) := by
  refine law_lift_sized (C := Try.checked) own0 started (by kernel_rfl) Try.func7 laid0 rfl (by kernel_rfl) (fun _ _ _ _ => trodAll_mk1 (shut_bool Try.underlying4 true)) (fun ds h => match ds, h with | [_, _], _ => ⟨rfl, rfl, rfl⟩)
    (ChangeSpec.witness6 (enc := enc) (C := Try.checked) false ⟨#[], #[.slice none 0 0, .string ⟨#[]⟩], []⟩ 8 (by kernel_rfl) (by kernel_rfl) (by kernel_rfl) (by kernel_rfl)) ?_
  intro W base args ds before hval0 hA0 hlt hsz
  have hval : ∀ (j : Nat) t v, Try.f7.params[j]? = some t → args[j]? = some v → Value.okWide Try.prog W .any base t v := hval0
  have hA : DataW.TrodAll enc Try.prog W 0 (fun _ => true) true Try.f7.params.toList args.toList ds before := hA0
  rw [Try.params7] at hA hval
  obtain ⟨v0, v1, d0, d1, p0, p1, rfl, rfl, rfl, h0, h1⟩ := trodAll_two hA
  obtain ⟨ll, hs0, hl0, ht0⟩ := open_texts (hval 0 41 v0 rfl rfl) h0
  obtain ⟨k, rfl, rfl, rfl, hs1⟩ := Go.ChangeMaps.open_string Try.underlying9 (hval 1 9 v1 rfl rfl) h1
  exact spanPoints_walk _ ll k W hs0 (ht0 _ _ 0 hsz (by kernel_rfl) rfl)

theorem spanPoints_holds : Rows.SpanPointsSaid :=
  OpenClaim.holds_of_wide 7 Try.f7 rfl rfl rfl rfl rfl rfl rfl ⟨rfl, rfl, rfl, rfl, rfl⟩ rfl rfl rfl rfl rfl (by kernel_rfl) Try.func7 (by kernel_rfl)
    (of_decide_eq_true (by kernel_rfl)) (by unfold Func.isWrapper; rw [if_neg (of_decide_eq_false (by kernel_rfl))]; exact ⟨rfl, rfl⟩)
    (fun os started H enc _ => spanPoints_lifted os started H enc)

#print axioms spanPoints_holds

end Go.Proofs.Ytolbgpcmpbkmmaa
