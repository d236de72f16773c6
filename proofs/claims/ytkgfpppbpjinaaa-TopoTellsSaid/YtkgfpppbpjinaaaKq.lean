/- The reference's marks: the texts at which spans begin or end, rising, each once. Conditions: a list of at most a million spans. -/
import Derived.Test.YtkgfpppbpjinaaaKp
set_option linter.unusedVariables false
set_option linter.unusedSimpArgs false
namespace Go.Proofs.Ytkgfpppbpjinaaa
open Go.RowKit

theorem Row1.two {W : World} {b : Nat} {x y : ByteArray} (h : W.heap[b]? = some (.cells #[.string x, .string y] 9 (0, 0))) : W.cell? ⟨b, 0, none⟩ = some (.string x) ∧ W.cell? ⟨b, 1, none⟩ = some (.string y) := by
  constructor <;> simp [World.cell?, h]
theorem keepS {w w' : World} {g o i : Nat} {s1 s2 : Value} (h : Below w.heap.size w w') (hg : g < w.heap.size) (c0 : w.cell? ⟨g, o + i * 2, none⟩ = some s1) (c1 : w.cell? ⟨g, o + i * 2 + 1, none⟩ = some s2) :
    Below w.heap.size w w' ∧ w'.cell? ⟨g, o + i * 2, none⟩ = some s1 ∧ w'.cell? ⟨g, o + i * 2 + 1, none⟩ = some s2 := ⟨h, cell_in h hg c0, cell_in h hg c1⟩
theorem keepT {w w' : World} {b i : Nat} {v : Value} (h : Below w.heap.size w w') (hb : b < w.heap.size) (c : w.cell? ⟨b, i, none⟩ = some v) : Below w.heap.size w w' ∧ w'.cell? ⟨b, i, none⟩ = some v := ⟨h, cell_in h hb c⟩
theorem ins_eq (a b : List ByteArray) (x : ByteArray) : [] ++ a ++ [x] ++ b = a ++ ([x] ++ b) := by simp
/-- Behind q of a span's two edges. -/
def midT (m : List ByteArray) (s : Sp) (q : Nat) : List ByteArray := if q = 0 then m else if q = 1 then insT s.1 m else markS m s
theorem midT_len (m : List ByteArray) (s : Sp) (q : Nat) : (midT m s q).length ≤ m.length + 2 := by
  unfold midT
  have h1 := insT_len s.1 m
  have h2 := markS_len m s
  split
  · omega
  · split <;> omega

set_option maxRecDepth 100000 in
set_option maxHeartbeats 8000000 in
theorem marks_any (va : Value) (l : List Sp) (w : World) (hlen : l.length ≤ 1000000) (ha : Sl w va l) :
    Calls Try.prog 47 #[va] w fun e w' => ∃ v, e = .returned v ∧ OwnT w' w.heap.size v (marksL l) ∧ Below w.heap.size w w' := by
  obtain ⟨aa, ca, rfl⟩ := ha.form
  have HA := Lib.hid ha
  clear ha
  go_enter Try.func47, Try.ntmps47
  go_wp2
  go_loopw [3, 4] (fun v i wr => ∃ k : Nat, k ≤ l.length ∧ i = .int .i64 k ∧ OwnT wr w.heap.size v (marksL (l.take k)) ∧ Below w.heap.size w wr) (fun _ i _ => l.length - (intOf i).toNat)
  case atStart => exact ⟨0, Nat.zero_le _, rfl, OwnT.nil _ _, Below.refl _ _⟩
  case round =>
    obtain ⟨k, hk, rfl, ho, hb⟩ := hrel
    have HO := Lib.hid ho
    have HB := Lib.hid hb
    by_cases hlt : k < l.length
    · obtain ⟨s, hs⟩ := at_lt hlt
      obtain ⟨g, o, rfl, hg, c0, c1⟩ := HA.out.at hs
      replace c0 := cell_in hb hg c0
      replace c1 := cell_in hb hg c1
      have hgw := Nat.lt_of_lt_of_le hg hb.size
      have HM : Hid (marksL (l.take (k + 1)) = markS (marksL (l.take k)) s) := marksL_take hs
      have HML : Hid ((marksL (l.take k)).length ≤ 2000000) := Nat.le_trans (marksL_len _) (by simp; omega)
      have hk0 : (0 : Int) ≤ (k : Int) := by omega
      have hk1 : (k : Int) < (l.length : Int) := by omega
      obtain ⟨av, cv, rfl⟩ := ho.form
      generalize marksL (l.take k) = m at *
      clear hs hb ho
      go_wp2
      go_region_held3 (fun w' => Below wr.heap.size wr w' ∧ w'.cell? ⟨g, o + k * 2, none⟩ = some (.string s.1) ∧ w'.cell? ⟨g, o + k * 2 + 1, none⟩ = some (.string s.2)) ((refine keepS ?_ hgw c0 c1; repeat (first | exact Below.refl _ _ | refine blAlloc ?_ _ | refine blQ ?_ _ | refine Below.drew ?_))) (fail)
      have hbw := (blAlloc (Below.refl wr.heap.size wr) (.cells #[.string s.1, .string s.2] 9)).drew
      have hblk : ((wr.alloc (.cells #[.string s.1, .string s.2] 9)).drew).heap[wr.heap.size]? = some (.cells #[.string s.1, .string s.2] 9 (0, 0)) := by
        show (wr.heap.push _)[wr.heap.size]? = _
        simp
      generalize (wr.alloc (.cells #[.string s.1, .string s.2] 9)).drew = W1 at hbw hblk ⊢
      have HO1 := Lib.hid (HO.out.later hbw)
      have HB1 := Lib.hid (HB.out.trans (hbw.mono HB.out.size))
      obtain ⟨Bb, hBb⟩ : ∃ Bb, wr.heap.size = Bb := ⟨_, rfl⟩
      rw [hBb] at hblk ⊢
      have hBl := lt_of_block hblk
      have HBLK := Lib.hid hblk
      clear hbw hblk hBb c0 c1 HO HB hgw
      go_wp2
      go_loopw [3, 6] (fun v j w2 => ∃ q : Nat, q ≤ 2 ∧ j = .int .i64 q ∧ OwnT w2 w.heap.size v (midT m s q) ∧ Below W1.heap.size W1 w2) (fun _ j _ => 2 - (intOf j).toNat)
      case atStart => exact ⟨0, by omega, rfl, HO1.out, Below.refl _ _⟩
      case round =>
        obtain ⟨w2, rfl⟩ : ∃ w2 : World, w2 = wr := ⟨_, rfl⟩
        obtain ⟨q, hq, rfl, ho, hb⟩ := hrel
        have HO2 := Lib.hid ho
        have HB2 := Lib.hid hb
        have hm2 : (midT m s q).length ≤ 2000002 := Nat.le_trans (midT_len m s q) (by have := HML.out; omega)
        obtain ⟨e0, e1⟩ := Row1.two ((hb.block Bb hBl).trans HBLK.out)
        have hBl2 := Nat.lt_of_lt_of_le hBl hb.size
        clear hb ho HO1
        match q, hq with
        | 2, _ =>
          have e2 : midT m s 2 = markS m s := rfl
          rw [e2] at HO2
          obtain ⟨av2, cv2, rfl⟩ := HO2.out.form
          clear e0 e1 hm2
          go_wp2
          go_roundw
          case rel => exact ⟨k + 1, hlt, by go_num, by rw [HM.out]; exact HO2.out, HB1.out.trans (HB2.out.mono HB1.out.size)⟩
          case measure => simp [intOf]; omega
        | 0, _ =>
          have HMM : Hid (midT m s 1 = insT s.1 (midT m s 0)) := rfl
          generalize midT m s 0 = mm at *
          obtain ⟨av2, cv2, rfl⟩ := HO2.out.form
          clear e1
          go_wp2
          go_loopw [7] (fun kk w3 => ∃ r : Nat, r ≤ mm.length ∧ kk = .int .i64 r ∧ (∀ (j : Nat) y, j < r → mm[j]? = some y → ltT y s.1 = true) ∧ Below w2.heap.size w2 w3) (fun kk _ => mm.length - (intOf kk).toNat)
          case atStart => exact ⟨0, Nat.zero_le _, rfl, fun j y h => absurd h (Nat.not_lt_zero _), Below.refl _ _⟩
          case round =>
            obtain ⟨w3, rfl⟩ : ∃ w3 : World, w3 = wr := ⟨_, rfl⟩
            obtain ⟨r, hr, rfl, hpre, hb3⟩ := hrel
            have HPRE := Lib.hid hpre
            have HB3 := Lib.hid (HB2.out.trans (hb3.mono HB2.out.size))
            have HO3 := Lib.hid (HO2.out.later hb3)
            have HB23 := Lib.hid hb3
            have f0 := cell_in hb3 hBl2 e0
            have hBl3 := Nat.lt_of_lt_of_le hBl2 hb3.size
            clear hpre hb3
            by_cases hrl : r < mm.length
            · obtain ⟨y, hy⟩ := at_lt hrl
              rcases HO3.out.row with ⟨_, hnil⟩ | ⟨g2, cap, he, hg2, hg2w, hn2, hcm2, hrow⟩
              · rw [hnil] at hrl
                exact absurd hrl (Nat.not_lt_zero _)
              · simp only [Value.slice.injEq, true_and] at he
                obtain ⟨rfl, rfl⟩ := he
                have cy := hrow r y hy
                rw [Nat.zero_add] at cy
                have HY := Lib.hid hy
                have hd : decide ((r : Int) < (mm.length : Int)) = true := decide_eq_true (by omega)
                have hr0 : (0 : Int) ≤ (r : Int) := by omega
                have hr1 : (r : Int) < (mm.length : Int) := by omega
                have hreq : ((r : Int) == (mm.length : Int)) = false := by simp; omega
                clear hrow hy
                cases hyx : ltT y s.1
                · have HINS : Hid (insT s.1 mm = if mm[r]? = some s.1 then mm else mm.take r ++ ([s.1] ++ mm.drop r)) := insT_at s.1 mm r HPRE.out (fun z hz => by
                    rw [HY.out] at hz
                    cases hz
                    exact hyx) hr
                  have hlx : Op.bytesLess y.toList s.1.toList = false := hyx
                  clear hyx
                  go_wp2
                  go_quiet (fail)
                  have hbQ : Below w3.heap.size w3 (w3.drewN nq) := blQ (Below.refl _ _) nq
                  generalize w3.drewN nq = w4 at hbQ ⊢
                  clear nq
                  have f0' := cell_in hbQ hBl3 f0
                  have cy' := cell_in hbQ hg2w cy
                  have hBl4 := Nat.lt_of_lt_of_le hBl3 hbQ.size
                  have hg2w4 := Nat.lt_of_lt_of_le hg2w hbQ.size
                  have HB4 := Lib.hid (HB3.out.trans (hbQ.mono HB3.out.size))
                  have HO4 := Lib.hid (HO3.out.later hbQ)
                  clear f0 cy hbQ hBl3 hg2w
                  cases heq : (y.toList == s.1.toList)
                  · have HIN2 : Hid (insT s.1 mm = mm.take r ++ ([s.1] ++ mm.drop r)) := by
                      show _ = _
                      rw [HINS.out, if_neg]
                      rw [HY.out]
                      intro e
                      cases e
                      simp at heq
                    go_wp2
                    go_quiet (fail)
                    have hbQ : Below w4.heap.size w4 (w4.drewN nq) := blQ (Below.refl _ _) nq
                    generalize w4.drewN nq = w5 at hbQ ⊢
                    clear nq
                    have fx := cell_in hbQ hBl4 f0'
                    have hBl5 := Nat.lt_of_lt_of_le hBl4 hbQ.size
                    have hg2w5 := Nat.lt_of_lt_of_le hg2w4 hbQ.size
                    have HB5 := Lib.hid (HB4.out.trans (hbQ.mono HB4.out.size))
                    have HO5 := Lib.hid (HO4.out.later hbQ)
                    have hcr : ¬ cv2 = r := by omega
                    clear f0' cy' hbQ hBl4 hg2w4 heq
                    go_wp2
                    have HT1 : Hid (Tl w5 (.slice (some ⟨g2, 0, none⟩) r cv2) (mm.take r)) := tl_take HO5.out.tl r (by omega)
                    have HT2 : Hid (Tl w5 (.slice (some ⟨g2, r, none⟩) (mm.length - r) (cv2 - r)) (mm.drop r)) := by have h := tl_drop HO5.out.tl r (cv2 - r) (mm.length - r) (by rw [List.length_drop]); rwa [Nat.zero_add] at h
                    have hkc : (r : Int) ≤ (cv2 : Int) := by omega
                    have hkl : (r : Int) ≤ (mm.length : Int) := by omega
                    have HLT : Hid ((mm.take r).length = r) := by show (mm.take r).length = r; rw [List.length_take]; first | omega | rfl
                    have HLD : Hid ((mm.drop r).length = mm.length - r) := by show _ = _; rw [List.length_drop]
                    go_region_held3 (fun w' => Below w5.heap.size w5 w' ∧ w'.cell? ⟨Bb, 0, none⟩ = some (.string s.1)) ((refine keepT ?_ hBl5 fx; (repeat (first | assumption | exact Below.refl _ _ | refine blAlloc ?_ _ | refine blQ ?_ _ | refine Below.drew ?_))))
                      (first
                        | (refine step_append_tx (w := (w5.alloc (.cells #[] 9)).drew) (by rfl) (.tmp 69) (.tmp 72) (by rfl) w5.heap.size _ [] (by rfl) ((own_emptyN w5 w5.heap.size w5.heap.size rfl (Nat.le_refl _)).later (by repeat (first | exact Below.refl _ _ | refine blAlloc ?_ _ | refine blQ ?_ _ | refine Below.drew ?_))) _ (mm.take r) (by rfl) (HT1.out.later (by repeat (first | exact Below.refl _ _ | refine blAlloc ?_ _ | refine blQ ?_ _ | refine Below.drew ?_))) (by have := HLT.out; simp only [List.length_nil]; omega) (by simp <;> omega) ?_; intro v1 w6 h1 h2; have H1 := Lib.hid h1; have hbS : Below w5.heap.size w5 w6 := grown_belowT (B := w5.heap.size) (x := w5) (by repeat (first | exact Below.refl _ _ | refine blAlloc ?_ _ | refine blQ ?_ _ | refine Below.drew ?_)) ((own_emptyN w5 w5.heap.size w5.heap.size rfl (Nat.le_refl _)).later (by repeat (first | exact Below.refl _ _ | refine blAlloc ?_ _ | refine blQ ?_ _ | refine Below.drew ?_))) (Nat.le_refl _) (by simp <;> omega) h2; clear h1 h2)
                        | (refine step_append_tx (w := ((w5.alloc (.cells #[] 9)).alloc (.cells #[.string s.1] 9)).drew) (by rfl) (.tmp 69) (.tmp 72) (by rfl) w5.heap.size _ [] (by rfl) ((own_emptyN w5 w5.heap.size w5.heap.size rfl (Nat.le_refl _)).later (by repeat (first | exact Below.refl _ _ | refine blAlloc ?_ _ | refine blQ ?_ _ | refine Below.drew ?_))) _ (mm.take r) (by rfl) (HT1.out.later (by repeat (first | exact Below.refl _ _ | refine blAlloc ?_ _ | refine blQ ?_ _ | refine Below.drew ?_))) (by have := HLT.out; simp only [List.length_nil]; omega) (by simp <;> omega) ?_; intro v1 w6 h1 h2; have H1 := Lib.hid h1; have hbS : Below w5.heap.size w5 w6 := grown_belowT (B := w5.heap.size) (x := w5) (by repeat (first | exact Below.refl _ _ | refine blAlloc ?_ _ | refine blQ ?_ _ | refine Below.drew ?_)) ((own_emptyN w5 w5.heap.size w5.heap.size rfl (Nat.le_refl _)).later (by repeat (first | exact Below.refl _ _ | refine blAlloc ?_ _ | refine blQ ?_ _ | refine Below.drew ?_))) (Nat.le_refl _) (by simp <;> omega) h2; have HX := Lib.hid (tl_grown ((one_newT (w5.alloc (.cells #[] 9)) s.1 (w5.heap.size + 1) (by simp)).later (wr := ((w5.alloc (.cells #[] 9)).alloc (.cells #[.string s.1] 9)).drew) (by repeat (first | exact Below.refl _ _ | refine blAlloc ?_ _ | refine blQ ?_ _ | refine Below.drew ?_))) rfl h2 (fun g o hgo => by simp only [Option.some.injEq, Addr.mk.injEq] at hgo; simp [Value.ownBlock]; omega)); clear h1 h2)
                        | (refine step_append_tx (w := ((w5.alloc (.cells #[.string s.1] 9)).alloc (.cells #[] 9)).drew) (by rfl) (.tmp 69) (.tmp 72) (by rfl) w5.heap.size _ [] (by rfl) ((own_emptyN (w5.alloc (.cells #[.string s.1] 9)) (w5.heap.size + 1) w5.heap.size (by simp) (by omega)).later (by repeat (first | exact Below.refl _ _ | refine blAlloc ?_ _ | refine blQ ?_ _ | refine Below.drew ?_))) _ (mm.take r) (by rfl) (HT1.out.later (by repeat (first | exact Below.refl _ _ | refine blAlloc ?_ _ | refine blQ ?_ _ | refine Below.drew ?_))) (by have := HLT.out; simp only [List.length_nil]; omega) (by simp <;> omega) ?_; intro v1 w6 h1 h2; have H1 := Lib.hid h1; have hbS : Below w5.heap.size w5 w6 := grown_belowT (B := w5.heap.size) (x := w5) (by repeat (first | exact Below.refl _ _ | refine blAlloc ?_ _ | refine blQ ?_ _ | refine Below.drew ?_)) ((own_emptyN (w5.alloc (.cells #[.string s.1] 9)) (w5.heap.size + 1) w5.heap.size (by simp) (by omega)).later (by repeat (first | exact Below.refl _ _ | refine blAlloc ?_ _ | refine blQ ?_ _ | refine Below.drew ?_))) (Nat.le_refl _) (by simp <;> omega) h2; have HX := Lib.hid (tl_grown ((one_newT w5 s.1 w5.heap.size rfl).later (wr := ((w5.alloc (.cells #[.string s.1] 9)).alloc (.cells #[] 9)).drew) (by repeat (first | exact Below.refl _ _ | refine blAlloc ?_ _ | refine blQ ?_ _ | refine Below.drew ?_))) rfl h2 (fun g o hgo => by simp only [Option.some.injEq, Addr.mk.injEq] at hgo; simp [Value.ownBlock]; omega)); clear h1 h2)
                        | (refine step_append_tx (by rfl) (.tmp 73) (.tmp 78) (by rfl) w5.heap.size _ ([] ++ mm.take r) (by rfl) (H1.out.later (blAlloc (Below.refl w6.heap.size w6) (.cells #[.string s.1] 9))) _ [s.1] (by rfl) (one_newT w6 s.1 _ rfl) (by have := HLT.out; simp only [List.nil_append, List.length_cons, List.length_nil]; omega) (by have := hbS.size; simp; omega) ?_; intro v2 w7 h1 h2; have H2 := Lib.hid h1; have hbS2 : Below w5.heap.size w5 w7 := grown_belowT (B := w5.heap.size) (x := w5) (by first | exact hbS | exact blAlloc hbS _) (H1.out.later (blAlloc (Below.refl w6.heap.size w6) (.cells #[.string s.1] 9))) (Nat.le_refl _) (by have := hbS.size; simp; omega) h2; clear h1 h2)
                        | (refine step_append_tx (by rfl) (.tmp 73) (.tmp 78) (by rfl) w5.heap.size _ ([] ++ mm.take r) (by rfl) (H1.out) _ [s.1] (by rfl) (HX.out) (by have := HLT.out; simp only [List.nil_append, List.length_cons, List.length_nil]; omega) (by have := hbS.size; simp; omega) ?_; intro v2 w7 h1 h2; have H2 := Lib.hid h1; have hbS2 : Below w5.heap.size w5 w7 := grown_belowT (B := w5.heap.size) (x := w5) (by first | exact hbS | exact blAlloc hbS _) (H1.out) (Nat.le_refl _) (by have := hbS.size; simp; omega) h2; clear h1 h2)
                        | (refine step_append_tx (by rfl) (.tmp 79) (.tmp 82) (by rfl) w5.heap.size _ ([] ++ mm.take r ++ [s.1]) (by rfl) (H2.out) _ (mm.drop r) (by rfl) (HT2.out.later hbS2) (by first | (simp; done) | (have := HLT.out; have := HLD.out; simp only [List.nil_append, List.length_append, List.length_cons, List.length_nil]; omega)) hbS2.size ?_; intro v3 w8 h1 h2; have H3 := Lib.hid h1; have hbS3 : Below w5.heap.size w5 w8 := grown_belowT (B := w5.heap.size) (x := w5) hbS2 H2.out (Nat.le_refl _) hbS2.size h2; clear h1 h2))
                    all_goals
                      have HFIN : Hid (OwnT w8 w.heap.size v3 (midT m s 1)) := by
                        show OwnT _ _ _ _
                        rw [HMM.out, HIN2.out]
                        have h := H3.out.mono (Nat.le_trans HB1.out.size HB5.out.size)
                        rwa [ins_eq] at h
                      have HBF := Lib.hid (HB5.out.trans (hbS3.mono HB5.out.size))
                      clear hbS hbS2 hbS3
                      go_wp2
                      go_roundw
                      case rel => exact ⟨1, by omega, by go_num, HFIN.out, HBF.out⟩
                      case measure => simp [intOf]
                  · have HEQ : Hid (insT s.1 mm = mm) := by
                      show insT s.1 mm = mm
                      have e : y = s.1 := text_ext (by simpa using heq)
                      rw [HINS.out, if_pos]
                      rw [HY.out, e]
                    go_wp2
                    go_quiet (fail)
                    have hbQ : Below w4.heap.size w4 (w4.drewN nq) := blQ (Below.refl _ _) nq
                    generalize w4.drewN nq = w5 at hbQ ⊢
                    clear nq
                    go_wp2
                    go_roundw
                    case rel => exact ⟨1, by omega, by go_num, by rw [HMM.out, HEQ.out]; exact HO4.out.later hbQ, HB4.out.trans (hbQ.mono HB4.out.size)⟩
                    case measure => simp [intOf]
                · have hlx : Op.bytesLess y.toList s.1.toList = true := hyx
                  have HLX := Lib.hid hyx
                  clear hyx
                  go_wp2
                  go_quiet (fail)
                  have hbX : Below w2.heap.size w2 (w3.drewN nq) := HB23.out.trans ((blQ (Below.refl _ _) nq).mono HB23.out.size)
                  go_wp2
                  go_roundw
                  case rel => exact ⟨r + 1, hrl, by go_num, fun j u hj hu => by
                    rcases Nat.lt_or_ge j r with h | h
                    · exact HPRE.out j u h hu
                    · obtain rfl : j = r := by omega
                      rw [HY.out] at hu
                      cases hu
                      exact HLX.out, hbX⟩
                  case measure => simp [intOf]; omega
            · obtain rfl : r = mm.length := by omega
              have HIN2 : Hid (insT s.1 mm = mm.take mm.length ++ ([s.1] ++ mm.drop mm.length)) := by
                show _ = _
                rw [insT_at s.1 mm mm.length HPRE.out (fun z hz => by simp at hz) (Nat.le_refl _), if_neg (by simp)]
              have hd : decide ((mm.length : Int) < (mm.length : Int)) = false := by simp
              have hreq : ((mm.length : Int) == (mm.length : Int)) = true := by simp
              go_wp2
              go_quiet (fail)
              have hbQ : Below w3.heap.size w3 (w3.drewN nq) := blQ (Below.refl _ _) nq
              generalize w3.drewN nq = w4 at hbQ ⊢
              clear nq
              have f0' := cell_in hbQ hBl3 f0
              have hBl4 := Nat.lt_of_lt_of_le hBl3 hbQ.size
              have HB4 := Lib.hid (HB3.out.trans (hbQ.mono HB3.out.size))
              have HO4 := Lib.hid (HO3.out.later hbQ)
              clear f0 hbQ hBl3
              go_wp2
              go_quiet (fail)
              have hbQ : Below w4.heap.size w4 (w4.drewN nq) := blQ (Below.refl _ _) nq
              generalize w4.drewN nq = w5 at hbQ ⊢
              clear nq
              have fx := cell_in hbQ hBl4 f0'
              have hBl5 := Nat.lt_of_lt_of_le hBl4 hbQ.size
              have HB5 := Lib.hid (HB4.out.trans (hbQ.mono HB4.out.size))
              have HO5 := Lib.hid (HO4.out.later hbQ)
              clear f0' hbQ hBl4
              rcases HO5.out.row with ⟨he, hnil⟩ | ⟨g2, cap, he, hg2, hg2w5, hn2, hcm2, _⟩
              · simp only [Value.slice.injEq] at he
                obtain ⟨rfl, hl0, rfl⟩ := he
                subst hnil
                rw [List.length_nil] at HIN2 HO5 ⊢
                clear hm2 hr hd hreq hrl hl0
                go_wp2
                have HT1 : Hid (Tl w5 (.slice none 0 0) (([] : List ByteArray).take 0)) := tl_empty w5 none 0 (fun _ => rfl)
                have HT2 : Hid (Tl w5 (.slice none 0 0) (([] : List ByteArray).drop 0)) := tl_empty w5 none 0 (fun _ => rfl)
                have HLT : Hid ((([] : List ByteArray).take 0).length = 0) := by show (([] : List ByteArray).take 0).length = 0; rw [List.length_take]; first | omega | rfl
                have HLD : Hid ((([] : List ByteArray).drop 0).length = ([] : List ByteArray).length - 0) := by show _ = _; rw [List.length_drop]
                go_region_held3 (fun w' => Below w5.heap.size w5 w' ∧ w'.cell? ⟨Bb, 0, none⟩ = some (.string s.1)) ((refine keepT ?_ hBl5 fx; (repeat (first | assumption | exact Below.refl _ _ | refine blAlloc ?_ _ | refine blQ ?_ _ | refine Below.drew ?_))))
                  (first
                    | (refine step_append_tx (w := (w5.alloc (.cells #[] 9)).drew) (by rfl) (.tmp 69) (.tmp 72) (by rfl) w5.heap.size _ [] (by rfl) ((own_emptyN w5 w5.heap.size w5.heap.size rfl (Nat.le_refl _)).later (by repeat (first | exact Below.refl _ _ | refine blAlloc ?_ _ | refine blQ ?_ _ | refine Below.drew ?_))) _ (([] : List ByteArray).take 0) (by rfl) (HT1.out.later (by repeat (first | exact Below.refl _ _ | refine blAlloc ?_ _ | refine blQ ?_ _ | refine Below.drew ?_))) (by have := HLT.out; simp only [List.length_nil]; omega) (by simp <;> omega) ?_; intro v1 w6 h1 h2; have H1 := Lib.hid h1; have hbS : Below w5.heap.size w5 w6 := grown_belowT (B := w5.heap.size) (x := w5) (by repeat (first | exact Below.refl _ _ | refine blAlloc ?_ _ | refine blQ ?_ _ | refine Below.drew ?_)) ((own_emptyN w5 w5.heap.size w5.heap.size rfl (Nat.le_refl _)).later (by repeat (first | exact Below.refl _ _ | refine blAlloc ?_ _ | refine blQ ?_ _ | refine Below.drew ?_))) (Nat.le_refl _) (by simp <;> omega) h2; clear h1 h2)
                    | (refine step_append_tx (w := ((w5.alloc (.cells #[] 9)).alloc (.cells #[.string s.1] 9)).drew) (by rfl) (.tmp 69) (.tmp 72) (by rfl) w5.heap.size _ [] (by rfl) ((own_emptyN w5 w5.heap.size w5.heap.size rfl (Nat.le_refl _)).later (by repeat (first | exact Below.refl _ _ | refine blAlloc ?_ _ | refine blQ ?_ _ | refine Below.drew ?_))) _ (([] : List ByteArray).take 0) (by rfl) (HT1.out.later (by repeat (first | exact Below.refl _ _ | refine blAlloc ?_ _ | refine blQ ?_ _ | refine Below.drew ?_))) (by have := HLT.out; simp only [List.length_nil]; omega) (by simp <;> omega) ?_; intro v1 w6 h1 h2; have H1 := Lib.hid h1; have hbS : Below w5.heap.size w5 w6 := grown_belowT (B := w5.heap.size) (x := w5) (by repeat (first | exact Below.refl _ _ | refine blAlloc ?_ _ | refine blQ ?_ _ | refine Below.drew ?_)) ((own_emptyN w5 w5.heap.size w5.heap.size rfl (Nat.le_refl _)).later (by repeat (first | exact Below.refl _ _ | refine blAlloc ?_ _ | refine blQ ?_ _ | refine Below.drew ?_))) (Nat.le_refl _) (by simp <;> omega) h2; have HX := Lib.hid (tl_grown ((one_newT (w5.alloc (.cells #[] 9)) s.1 (w5.heap.size + 1) (by simp)).later (wr := ((w5.alloc (.cells #[] 9)).alloc (.cells #[.string s.1] 9)).drew) (by repeat (first | exact Below.refl _ _ | refine blAlloc ?_ _ | refine blQ ?_ _ | refine Below.drew ?_))) rfl h2 (fun g o hgo => by simp only [Option.some.injEq, Addr.mk.injEq] at hgo; simp [Value.ownBlock]; omega)); clear h1 h2)
                    | (refine step_append_tx (w := ((w5.alloc (.cells #[.string s.1] 9)).alloc (.cells #[] 9)).drew) (by rfl) (.tmp 69) (.tmp 72) (by rfl) w5.heap.size _ [] (by rfl) ((own_emptyN (w5.alloc (.cells #[.string s.1] 9)) (w5.heap.size + 1) w5.heap.size (by simp) (by omega)).later (by repeat (first | exact Below.refl _ _ | refine blAlloc ?_ _ | refine blQ ?_ _ | refine Below.drew ?_))) _ (([] : List ByteArray).take 0) (by rfl) (HT1.out.later (by repeat (first | exact Below.refl _ _ | refine blAlloc ?_ _ | refine blQ ?_ _ | refine Below.drew ?_))) (by have := HLT.out; simp only [List.length_nil]; omega) (by simp <;> omega) ?_; intro v1 w6 h1 h2; have H1 := Lib.hid h1; have hbS : Below w5.heap.size w5 w6 := grown_belowT (B := w5.heap.size) (x := w5) (by repeat (first | exact Below.refl _ _ | refine blAlloc ?_ _ | refine blQ ?_ _ | refine Below.drew ?_)) ((own_emptyN (w5.alloc (.cells #[.string s.1] 9)) (w5.heap.size + 1) w5.heap.size (by simp) (by omega)).later (by repeat (first | exact Below.refl _ _ | refine blAlloc ?_ _ | refine blQ ?_ _ | refine Below.drew ?_))) (Nat.le_refl _) (by simp <;> omega) h2; have HX := Lib.hid (tl_grown ((one_newT w5 s.1 w5.heap.size rfl).later (wr := ((w5.alloc (.cells #[.string s.1] 9)).alloc (.cells #[] 9)).drew) (by repeat (first | exact Below.refl _ _ | refine blAlloc ?_ _ | refine blQ ?_ _ | refine Below.drew ?_))) rfl h2 (fun g o hgo => by simp only [Option.some.injEq, Addr.mk.injEq] at hgo; simp [Value.ownBlock]; omega)); clear h1 h2)
                    | (refine step_append_tx (by rfl) (.tmp 73) (.tmp 78) (by rfl) w5.heap.size _ ([] ++ ([] : List ByteArray).take 0) (by rfl) (H1.out.later (blAlloc (Below.refl w6.heap.size w6) (.cells #[.string s.1] 9))) _ [s.1] (by rfl) (one_newT w6 s.1 _ rfl) (by have := HLT.out; simp only [List.nil_append, List.length_cons, List.length_nil]; omega) (by have := hbS.size; simp; omega) ?_; intro v2 w7 h1 h2; have H2 := Lib.hid h1; have hbS2 : Below w5.heap.size w5 w7 := grown_belowT (B := w5.heap.size) (x := w5) (by first | exact hbS | exact blAlloc hbS _) (H1.out.later (blAlloc (Below.refl w6.heap.size w6) (.cells #[.string s.1] 9))) (Nat.le_refl _) (by have := hbS.size; simp; omega) h2; clear h1 h2)
                    | (refine step_append_tx (by rfl) (.tmp 73) (.tmp 78) (by rfl) w5.heap.size _ ([] ++ ([] : List ByteArray).take 0) (by rfl) (H1.out) _ [s.1] (by rfl) (HX.out) (by have := HLT.out; simp only [List.nil_append, List.length_cons, List.length_nil]; omega) (by have := hbS.size; simp; omega) ?_; intro v2 w7 h1 h2; have H2 := Lib.hid h1; have hbS2 : Below w5.heap.size w5 w7 := grown_belowT (B := w5.heap.size) (x := w5) (by first | exact hbS | exact blAlloc hbS _) (H1.out) (Nat.le_refl _) (by have := hbS.size; simp; omega) h2; clear h1 h2)
                    | (refine step_append_tx (by rfl) (.tmp 79) (.tmp 82) (by rfl) w5.heap.size _ ([] ++ ([] : List ByteArray).take 0 ++ [s.1]) (by rfl) (H2.out) _ (([] : List ByteArray).drop 0) (by rfl) (HT2.out.later hbS2) (by first | (simp; done) | (have := HLT.out; have := HLD.out; simp only [List.nil_append, List.length_append, List.length_cons, List.length_nil]; omega)) hbS2.size ?_; intro v3 w8 h1 h2; have H3 := Lib.hid h1; have hbS3 : Below w5.heap.size w5 w8 := grown_belowT (B := w5.heap.size) (x := w5) hbS2 H2.out (Nat.le_refl _) hbS2.size h2; clear h1 h2))
                all_goals
                  have HFIN : Hid (OwnT w8 w.heap.size v3 (midT m s 1)) := by
                    show OwnT _ _ _ _
                    rw [HMM.out, HIN2.out]
                    have h := H3.out.mono (Nat.le_trans HB1.out.size HB5.out.size)
                    rwa [ins_eq] at h
                  have HBF := Lib.hid (HB5.out.trans (hbS3.mono HB5.out.size))
                  clear hbS hbS2 hbS3
                  go_wp2
                  go_roundw
                  case rel => exact ⟨1, by omega, by go_num, HFIN.out, HBF.out⟩
                  case measure => simp [intOf]
              · simp only [Value.slice.injEq, true_and] at he
                obtain ⟨rfl, rfl⟩ := he
                by_cases hcr : cv2 = mm.length
                · subst hcr
                  go_wp2
                  have HT1 : Hid (Tl w5 (.slice (some ⟨g2, 0, none⟩) mm.length mm.length) (mm.take mm.length)) := tl_take HO5.out.tl mm.length (Nat.le_refl _)
                  have HT2 : Hid (Tl w5 (.slice (some ⟨g2, 0, none⟩) 0 0) (mm.drop mm.length)) := by show Tl _ _ _; rw [List.drop_length]; exact tl_empty w5 _ 0 (fun _ => rfl)
                  have hkl : (mm.length : Int) ≤ (mm.length : Int) := by omega
                  have HLT : Hid ((mm.take mm.length).length = mm.length) := by show (mm.take mm.length).length = mm.length; rw [List.length_take]; first | omega | rfl
                  have HLD : Hid ((mm.drop mm.length).length = mm.length - mm.length) := by show _ = _; rw [List.length_drop]
                  go_region_held3 (fun w' => Below w5.heap.size w5 w' ∧ w'.cell? ⟨Bb, 0, none⟩ = some (.string s.1)) ((refine keepT ?_ hBl5 fx; (repeat (first | assumption | exact Below.refl _ _ | refine blAlloc ?_ _ | refine blQ ?_ _ | refine Below.drew ?_))))
                    (first
                      | (refine step_append_tx (w := (w5.alloc (.cells #[] 9)).drew) (by rfl) (.tmp 69) (.tmp 72) (by rfl) w5.heap.size _ [] (by rfl) ((own_emptyN w5 w5.heap.size w5.heap.size rfl (Nat.le_refl _)).later (by repeat (first | exact Below.refl _ _ | refine blAlloc ?_ _ | refine blQ ?_ _ | refine Below.drew ?_))) _ (mm.take mm.length) (by rfl) (HT1.out.later (by repeat (first | exact Below.refl _ _ | refine blAlloc ?_ _ | refine blQ ?_ _ | refine Below.drew ?_))) (by have := HLT.out; simp only [List.length_nil]; omega) (by simp <;> omega) ?_; intro v1 w6 h1 h2; have H1 := Lib.hid h1; have hbS : Below w5.heap.size w5 w6 := grown_belowT (B := w5.heap.size) (x := w5) (by repeat (first | exact Below.refl _ _ | refine blAlloc ?_ _ | refine blQ ?_ _ | refine Below.drew ?_)) ((own_emptyN w5 w5.heap.size w5.heap.size rfl (Nat.le_refl _)).later (by repeat (first | exact Below.refl _ _ | refine blAlloc ?_ _ | refine blQ ?_ _ | refine Below.drew ?_))) (Nat.le_refl _) (by simp <;> omega) h2; clear h1 h2)
                      | (refine step_append_tx (w := ((w5.alloc (.cells #[] 9)).alloc (.cells #[.string s.1] 9)).drew) (by rfl) (.tmp 69) (.tmp 72) (by rfl) w5.heap.size _ [] (by rfl) ((own_emptyN w5 w5.heap.size w5.heap.size rfl (Nat.le_refl _)).later (by repeat (first | exact Below.refl _ _ | refine blAlloc ?_ _ | refine blQ ?_ _ | refine Below.drew ?_))) _ (mm.take mm.length) (by rfl) (HT1.out.later (by repeat (first | exact Below.refl _ _ | refine blAlloc ?_ _ | refine blQ ?_ _ | refine Below.drew ?_))) (by have := HLT.out; simp only [List.length_nil]; omega) (by simp <;> omega) ?_; intro v1 w6 h1 h2; have H1 := Lib.hid h1; have hbS : Below w5.heap.size w5 w6 := grown_belowT (B := w5.heap.size) (x := w5) (by repeat (first | exact Below.refl _ _ | refine blAlloc ?_ _ | refine blQ ?_ _ | refine Below.drew ?_)) ((own_emptyN w5 w5.heap.size w5.heap.size rfl (Nat.le_refl _)).later (by repeat (first | exact Below.refl _ _ | refine blAlloc ?_ _ | refine blQ ?_ _ | refine Below.drew ?_))) (Nat.le_refl _) (by simp <;> omega) h2; have HX := Lib.hid (tl_grown ((one_newT (w5.alloc (.cells #[] 9)) s.1 (w5.heap.size + 1) (by simp)).later (wr := ((w5.alloc (.cells #[] 9)).alloc (.cells #[.string s.1] 9)).drew) (by repeat (first | exact Below.refl _ _ | refine blAlloc ?_ _ | refine blQ ?_ _ | refine Below.drew ?_))) rfl h2 (fun g o hgo => by simp only [Option.some.injEq, Addr.mk.injEq] at hgo; simp [Value.ownBlock]; omega)); clear h1 h2)
                      | (refine step_append_tx (w := ((w5.alloc (.cells #[.string s.1] 9)).alloc (.cells #[] 9)).drew) (by rfl) (.tmp 69) (.tmp 72) (by rfl) w5.heap.size _ [] (by rfl) ((own_emptyN (w5.alloc (.cells #[.string s.1] 9)) (w5.heap.size + 1) w5.heap.size (by simp) (by omega)).later (by repeat (first | exact Below.refl _ _ | refine blAlloc ?_ _ | refine blQ ?_ _ | refine Below.drew ?_))) _ (mm.take mm.length) (by rfl) (HT1.out.later (by repeat (first | exact Below.refl _ _ | refine blAlloc ?_ _ | refine blQ ?_ _ | refine Below.drew ?_))) (by have := HLT.out; simp only [List.length_nil]; omega) (by simp <;> omega) ?_; intro v1 w6 h1 h2; have H1 := Lib.hid h1; have hbS : Below w5.heap.size w5 w6 := grown_belowT (B := w5.heap.size) (x := w5) (by repeat (first | exact Below.refl _ _ | refine blAlloc ?_ _ | refine blQ ?_ _ | refine Below.drew ?_)) ((own_emptyN (w5.alloc (.cells #[.string s.1] 9)) (w5.heap.size + 1) w5.heap.size (by simp) (by omega)).later (by repeat (first | exact Below.refl _ _ | refine blAlloc ?_ _ | refine blQ ?_ _ | refine Below.drew ?_))) (Nat.le_refl _) (by simp <;> omega) h2; have HX := Lib.hid (tl_grown ((one_newT w5 s.1 w5.heap.size rfl).later (wr := ((w5.alloc (.cells #[.string s.1] 9)).alloc (.cells #[] 9)).drew) (by repeat (first | exact Below.refl _ _ | refine blAlloc ?_ _ | refine blQ ?_ _ | refine Below.drew ?_))) rfl h2 (fun g o hgo => by simp only [Option.some.injEq, Addr.mk.injEq] at hgo; simp [Value.ownBlock]; omega)); clear h1 h2)
                      | (refine step_append_tx (by rfl) (.tmp 73) (.tmp 78) (by rfl) w5.heap.size _ ([] ++ mm.take mm.length) (by rfl) (H1.out.later (blAlloc (Below.refl w6.heap.size w6) (.cells #[.string s.1] 9))) _ [s.1] (by rfl) (one_newT w6 s.1 _ rfl) (by have := HLT.out; simp only [List.nil_append, List.length_cons, List.length_nil]; omega) (by have := hbS.size; simp; omega) ?_; intro v2 w7 h1 h2; have H2 := Lib.hid h1; have hbS2 : Below w5.heap.size w5 w7 := grown_belowT (B := w5.heap.size) (x := w5) (by first | exact hbS | exact blAlloc hbS _) (H1.out.later (blAlloc (Below.refl w6.heap.size w6) (.cells #[.string s.1] 9))) (Nat.le_refl _) (by have := hbS.size; simp; omega) h2; clear h1 h2)
                      | (refine step_append_tx (by rfl) (.tmp 73) (.tmp 78) (by rfl) w5.heap.size _ ([] ++ mm.take mm.length) (by rfl) (H1.out) _ [s.1] (by rfl) (HX.out) (by have := HLT.out; simp only [List.nil_append, List.length_cons, List.length_nil]; omega) (by have := hbS.size; simp; omega) ?_; intro v2 w7 h1 h2; have H2 := Lib.hid h1; have hbS2 : Below w5.heap.size w5 w7 := grown_belowT (B := w5.heap.size) (x := w5) (by first | exact hbS | exact blAlloc hbS _) (H1.out) (Nat.le_refl _) (by have := hbS.size; simp; omega) h2; clear h1 h2)
                      | (refine step_append_tx (by rfl) (.tmp 79) (.tmp 82) (by rfl) w5.heap.size _ ([] ++ mm.take mm.length ++ [s.1]) (by rfl) (H2.out) _ (mm.drop mm.length) (by rfl) (HT2.out.later hbS2) (by first | (simp; done) | (have := HLT.out; have := HLD.out; simp only [List.nil_append, List.length_append, List.length_cons, List.length_nil]; omega)) hbS2.size ?_; intro v3 w8 h1 h2; have H3 := Lib.hid h1; have hbS3 : Below w5.heap.size w5 w8 := grown_belowT (B := w5.heap.size) (x := w5) hbS2 H2.out (Nat.le_refl _) hbS2.size h2; clear h1 h2))
                  all_goals
                    have HFIN : Hid (OwnT w8 w.heap.size v3 (midT m s 1)) := by
                      show OwnT _ _ _ _
                      rw [HMM.out, HIN2.out]
                      have h := H3.out.mono (Nat.le_trans HB1.out.size HB5.out.size)
                      rwa [ins_eq] at h
                    have HBF := Lib.hid (HB5.out.trans (hbS3.mono HB5.out.size))
                    clear hbS hbS2 hbS3
                    go_wp2
                    go_roundw
                    case rel => exact ⟨1, by omega, by go_num, HFIN.out, HBF.out⟩
                    case measure => simp [intOf]
                · go_wp2
                  have HT1 : Hid (Tl w5 (.slice (some ⟨g2, 0, none⟩) mm.length cv2) (mm.take mm.length)) := tl_take HO5.out.tl mm.length (Nat.le_refl _)
                  have HT2 : Hid (Tl w5 (.slice (some ⟨g2, mm.length, none⟩) 0 (cv2 - mm.length)) (mm.drop mm.length)) := by show Tl _ _ _; rw [List.drop_length]; exact tl_empty w5 _ _ (fun h => by cases h)
                  have hkc : (mm.length : Int) ≤ (cv2 : Int) := by omega
                  have hkl : (mm.length : Int) ≤ (mm.length : Int) := by omega
                  have HLT : Hid ((mm.take mm.length).length = mm.length) := by show (mm.take mm.length).length = mm.length; rw [List.length_take]; first | omega | rfl
                  have HLD : Hid ((mm.drop mm.length).length = mm.length - mm.length) := by show _ = _; rw [List.length_drop]
                  go_region_held3 (fun w' => Below w5.heap.size w5 w' ∧ w'.cell? ⟨Bb, 0, none⟩ = some (.string s.1)) ((refine keepT ?_ hBl5 fx; (repeat (first | assumption | exact Below.refl _ _ | refine blAlloc ?_ _ | refine blQ ?_ _ | refine Below.drew ?_))))
                    (first
                      | (refine step_append_tx (w := (w5.alloc (.cells #[] 9)).drew) (by rfl) (.tmp 69) (.tmp 72) (by rfl) w5.heap.size _ [] (by rfl) ((own_emptyN w5 w5.heap.size w5.heap.size rfl (Nat.le_refl _)).later (by repeat (first | exact Below.refl _ _ | refine blAlloc ?_ _ | refine blQ ?_ _ | refine Below.drew ?_))) _ (mm.take mm.length) (by rfl) (HT1.out.later (by repeat (first | exact Below.refl _ _ | refine blAlloc ?_ _ | refine blQ ?_ _ | refine Below.drew ?_))) (by have := HLT.out; simp only [List.length_nil]; omega) (by simp <;> omega) ?_; intro v1 w6 h1 h2; have H1 := Lib.hid h1; have hbS : Below w5.heap.size w5 w6 := grown_belowT (B := w5.heap.size) (x := w5) (by repeat (first | exact Below.refl _ _ | refine blAlloc ?_ _ | refine blQ ?_ _ | refine Below.drew ?_)) ((own_emptyN w5 w5.heap.size w5.heap.size rfl (Nat.le_refl _)).later (by repeat (first | exact Below.refl _ _ | refine blAlloc ?_ _ | refine blQ ?_ _ | refine Below.drew ?_))) (Nat.le_refl _) (by simp <;> omega) h2; clear h1 h2)
                      | (refine step_append_tx (w := ((w5.alloc (.cells #[] 9)).alloc (.cells #[.string s.1] 9)).drew) (by rfl) (.tmp 69) (.tmp 72) (by rfl) w5.heap.size _ [] (by rfl) ((own_emptyN w5 w5.heap.size w5.heap.size rfl (Nat.le_refl _)).later (by repeat (first | exact Below.refl _ _ | refine blAlloc ?_ _ | refine blQ ?_ _ | refine Below.drew ?_))) _ (mm.take mm.length) (by rfl) (HT1.out.later (by repeat (first | exact Below.refl _ _ | refine blAlloc ?_ _ | refine blQ ?_ _ | refine Below.drew ?_))) (by have := HLT.out; simp only [List.length_nil]; omega) (by simp <;> omega) ?_; intro v1 w6 h1 h2; have H1 := Lib.hid h1; have hbS : Below w5.heap.size w5 w6 := grown_belowT (B := w5.heap.size) (x := w5) (by repeat (first | exact Below.refl _ _ | refine blAlloc ?_ _ | refine blQ ?_ _ | refine Below.drew ?_)) ((own_emptyN w5 w5.heap.size w5.heap.size rfl (Nat.le_refl _)).later (by repeat (first | exact Below.refl _ _ | refine blAlloc ?_ _ | refine blQ ?_ _ | refine Below.drew ?_))) (Nat.le_refl _) (by simp <;> omega) h2; have HX := Lib.hid (tl_grown ((one_newT (w5.alloc (.cells #[] 9)) s.1 (w5.heap.size + 1) (by simp)).later (wr := ((w5.alloc (.cells #[] 9)).alloc (.cells #[.string s.1] 9)).drew) (by repeat (first | exact Below.refl _ _ | refine blAlloc ?_ _ | refine blQ ?_ _ | refine Below.drew ?_))) rfl h2 (fun g o hgo => by simp only [Option.some.injEq, Addr.mk.injEq] at hgo; simp [Value.ownBlock]; omega)); clear h1 h2)
                      | (refine step_append_tx (w := ((w5.alloc (.cells #[.string s.1] 9)).alloc (.cells #[] 9)).drew) (by rfl) (.tmp 69) (.tmp 72) (by rfl) w5.heap.size _ [] (by rfl) ((own_emptyN (w5.alloc (.cells #[.string s.1] 9)) (w5.heap.size + 1) w5.heap.size (by simp) (by omega)).later (by repeat (first | exact Below.refl _ _ | refine blAlloc ?_ _ | refine blQ ?_ _ | refine Below.drew ?_))) _ (mm.take mm.length) (by rfl) (HT1.out.later (by repeat (first | exact Below.refl _ _ | refine blAlloc ?_ _ | refine blQ ?_ _ | refine Below.drew ?_))) (by have := HLT.out; simp only [List.length_nil]; omega) (by simp <;> omega) ?_; intro v1 w6 h1 h2; have H1 := Lib.hid h1; have hbS : Below w5.heap.size w5 w6 := grown_belowT (B := w5.heap.size) (x := w5) (by repeat (first | exact Below.refl _ _ | refine blAlloc ?_ _ | refine blQ ?_ _ | refine Below.drew ?_)) ((own_emptyN (w5.alloc (.cells #[.string s.1] 9)) (w5.heap.size + 1) w5.heap.size (by simp) (by omega)).later (by repeat (first | exact Below.refl _ _ | refine blAlloc ?_ _ | refine blQ ?_ _ | refine Below.drew ?_))) (Nat.le_refl _) (by simp <;> omega) h2; have HX := Lib.hid (tl_grown ((one_newT w5 s.1 w5.heap.size rfl).later (wr := ((w5.alloc (.cells #[.string s.1] 9)).alloc (.cells #[] 9)).drew) (by repeat (first | exact Below.refl _ _ | refine blAlloc ?_ _ | refine blQ ?_ _ | refine Below.drew ?_))) rfl h2 (fun g o hgo => by simp only [Option.some.injEq, Addr.mk.injEq] at hgo; simp [Value.ownBlock]; omega)); clear h1 h2)
                      | (refine step_append_tx (by rfl) (.tmp 73) (.tmp 78) (by rfl) w5.heap.size _ ([] ++ mm.take mm.length) (by rfl) (H1.out.later (blAlloc (Below.refl w6.heap.size w6) (.cells #[.string s.1] 9))) _ [s.1] (by rfl) (one_newT w6 s.1 _ rfl) (by have := HLT.out; simp only [List.nil_append, List.length_cons, List.length_nil]; omega) (by have := hbS.size; simp; omega) ?_; intro v2 w7 h1 h2; have H2 := Lib.hid h1; have hbS2 : Below w5.heap.size w5 w7 := grown_belowT (B := w5.heap.size) (x := w5) (by first | exact hbS | exact blAlloc hbS _) (H1.out.later (blAlloc (Below.refl w6.heap.size w6) (.cells #[.string s.1] 9))) (Nat.le_refl _) (by have := hbS.size; simp; omega) h2; clear h1 h2)
                      | (refine step_append_tx (by rfl) (.tmp 73) (.tmp 78) (by rfl) w5.heap.size _ ([] ++ mm.take mm.length) (by rfl) (H1.out) _ [s.1] (by rfl) (HX.out) (by have := HLT.out; simp only [List.nil_append, List.length_cons, List.length_nil]; omega) (by have := hbS.size; simp; omega) ?_; intro v2 w7 h1 h2; have H2 := Lib.hid h1; have hbS2 : Below w5.heap.size w5 w7 := grown_belowT (B := w5.heap.size) (x := w5) (by first | exact hbS | exact blAlloc hbS _) (H1.out) (Nat.le_refl _) (by have := hbS.size; simp; omega) h2; clear h1 h2)
                      | (refine step_append_tx (by rfl) (.tmp 79) (.tmp 82) (by rfl) w5.heap.size _ ([] ++ mm.take mm.length ++ [s.1]) (by rfl) (H2.out) _ (mm.drop mm.length) (by rfl) (HT2.out.later hbS2) (by first | (simp; done) | (have := HLT.out; have := HLD.out; simp only [List.nil_append, List.length_append, List.length_cons, List.length_nil]; omega)) hbS2.size ?_; intro v3 w8 h1 h2; have H3 := Lib.hid h1; have hbS3 : Below w5.heap.size w5 w8 := grown_belowT (B := w5.heap.size) (x := w5) hbS2 H2.out (Nat.le_refl _) hbS2.size h2; clear h1 h2))
                  all_goals
                    have HFIN : Hid (OwnT w8 w.heap.size v3 (midT m s 1)) := by
                      show OwnT _ _ _ _
                      rw [HMM.out, HIN2.out]
                      have h := H3.out.mono (Nat.le_trans HB1.out.size HB5.out.size)
                      rwa [ins_eq] at h
                    have HBF := Lib.hid (HB5.out.trans (hbS3.mono HB5.out.size))
                    clear hbS hbS2 hbS3
                    go_wp2
                    go_roundw
                    case rel => exact ⟨1, by omega, by go_num, HFIN.out, HBF.out⟩
                    case measure => simp [intOf]
        | 1, _ =>
          cases hn : noT s.2
          · have hno : s.2.toList.isEmpty = false := hn
            have HMM : Hid (midT m s 2 = insT s.2 (midT m s 1)) := by
              show markS m s = insT s.2 (insT s.1 m)
              unfold markS
              rw [if_neg (by rw [hn]; simp)]
            clear hn
            generalize midT m s 1 = mm at *
            obtain ⟨av2, cv2, rfl⟩ := HO2.out.form
            clear e0
            go_wp2
            go_loopw [7] (fun kk w3 => ∃ r : Nat, r ≤ mm.length ∧ kk = .int .i64 r ∧ (∀ (j : Nat) y, j < r → mm[j]? = some y → ltT y s.2 = true) ∧ Below w2.heap.size w2 w3) (fun kk _ => mm.length - (intOf kk).toNat)
            case atStart => exact ⟨0, Nat.zero_le _, rfl, fun j y h => absurd h (Nat.not_lt_zero _), Below.refl _ _⟩
            case round =>
              obtain ⟨w3, rfl⟩ : ∃ w3 : World, w3 = wr := ⟨_, rfl⟩
              obtain ⟨r, hr, rfl, hpre, hb3⟩ := hrel
              have HPRE := Lib.hid hpre
              have HB3 := Lib.hid (HB2.out.trans (hb3.mono HB2.out.size))
              have HO3 := Lib.hid (HO2.out.later hb3)
              have HB23 := Lib.hid hb3
              have f0 := cell_in hb3 hBl2 e1
              have hBl3 := Nat.lt_of_lt_of_le hBl2 hb3.size
              clear hpre hb3
              by_cases hrl : r < mm.length
              · obtain ⟨y, hy⟩ := at_lt hrl
                rcases HO3.out.row with ⟨_, hnil⟩ | ⟨g2, cap, he, hg2, hg2w, hn2, hcm2, hrow⟩
                · rw [hnil] at hrl
                  exact absurd hrl (Nat.not_lt_zero _)
                · simp only [Value.slice.injEq, true_and] at he
                  obtain ⟨rfl, rfl⟩ := he
                  have cy := hrow r y hy
                  rw [Nat.zero_add] at cy
                  have HY := Lib.hid hy
                  have hd : decide ((r : Int) < (mm.length : Int)) = true := decide_eq_true (by omega)
                  have hr0 : (0 : Int) ≤ (r : Int) := by omega
                  have hr1 : (r : Int) < (mm.length : Int) := by omega
                  have hreq : ((r : Int) == (mm.length : Int)) = false := by simp; omega
                  clear hrow hy
                  cases hyx : ltT y s.2
                  · have HINS : Hid (insT s.2 mm = if mm[r]? = some s.2 then mm else mm.take r ++ ([s.2] ++ mm.drop r)) := insT_at s.2 mm r HPRE.out (fun z hz => by
                      rw [HY.out] at hz
                      cases hz
                      exact hyx) hr
                    have hlx : Op.bytesLess y.toList s.2.toList = false := hyx
                    clear hyx
                    go_wp2
                    go_quiet (fail)
                    have hbQ : Below w3.heap.size w3 (w3.drewN nq) := blQ (Below.refl _ _) nq
                    generalize w3.drewN nq = w4 at hbQ ⊢
                    clear nq
                    have f0' := cell_in hbQ hBl3 f0
                    have cy' := cell_in hbQ hg2w cy
                    have hBl4 := Nat.lt_of_lt_of_le hBl3 hbQ.size
                    have hg2w4 := Nat.lt_of_lt_of_le hg2w hbQ.size
                    have HB4 := Lib.hid (HB3.out.trans (hbQ.mono HB3.out.size))
                    have HO4 := Lib.hid (HO3.out.later hbQ)
                    clear f0 cy hbQ hBl3 hg2w
                    cases heq : (y.toList == s.2.toList)
                    · have HIN2 : Hid (insT s.2 mm = mm.take r ++ ([s.2] ++ mm.drop r)) := by
                        show _ = _
                        rw [HINS.out, if_neg]
                        rw [HY.out]
                        intro e
                        cases e
                        simp at heq
                      go_wp2
                      go_quiet (fail)
                      have hbQ : Below w4.heap.size w4 (w4.drewN nq) := blQ (Below.refl _ _) nq
                      generalize w4.drewN nq = w5 at hbQ ⊢
                      clear nq
                      have fx := cell_in hbQ hBl4 f0'
                      have hBl5 := Nat.lt_of_lt_of_le hBl4 hbQ.size
                      have hg2w5 := Nat.lt_of_lt_of_le hg2w4 hbQ.size
                      have HB5 := Lib.hid (HB4.out.trans (hbQ.mono HB4.out.size))
                      have HO5 := Lib.hid (HO4.out.later hbQ)
                      have hcr : ¬ cv2 = r := by omega
                      clear f0' cy' hbQ hBl4 hg2w4 heq
                      go_wp2
                      have HT1 : Hid (Tl w5 (.slice (some ⟨g2, 0, none⟩) r cv2) (mm.take r)) := tl_take HO5.out.tl r (by omega)
                      have HT2 : Hid (Tl w5 (.slice (some ⟨g2, r, none⟩) (mm.length - r) (cv2 - r)) (mm.drop r)) := by have h := tl_drop HO5.out.tl r (cv2 - r) (mm.length - r) (by rw [List.length_drop]); rwa [Nat.zero_add] at h
                      have hkc : (r : Int) ≤ (cv2 : Int) := by omega
                      have hkl : (r : Int) ≤ (mm.length : Int) := by omega
                      have HLT : Hid ((mm.take r).length = r) := by show (mm.take r).length = r; rw [List.length_take]; first | omega | rfl
                      have HLD : Hid ((mm.drop r).length = mm.length - r) := by show _ = _; rw [List.length_drop]
                      go_region_held3 (fun w' => Below w5.heap.size w5 w' ∧ w'.cell? ⟨Bb, 1, none⟩ = some (.string s.2)) ((refine keepT ?_ hBl5 fx; (repeat (first | assumption | exact Below.refl _ _ | refine blAlloc ?_ _ | refine blQ ?_ _ | refine Below.drew ?_))))
                        (first
                          | (refine step_append_tx (w := (w5.alloc (.cells #[] 9)).drew) (by rfl) (.tmp 69) (.tmp 72) (by rfl) w5.heap.size _ [] (by rfl) ((own_emptyN w5 w5.heap.size w5.heap.size rfl (Nat.le_refl _)).later (by repeat (first | exact Below.refl _ _ | refine blAlloc ?_ _ | refine blQ ?_ _ | refine Below.drew ?_))) _ (mm.take r) (by rfl) (HT1.out.later (by repeat (first | exact Below.refl _ _ | refine blAlloc ?_ _ | refine blQ ?_ _ | refine Below.drew ?_))) (by have := HLT.out; simp only [List.length_nil]; omega) (by simp <;> omega) ?_; intro v1 w6 h1 h2; have H1 := Lib.hid h1; have hbS : Below w5.heap.size w5 w6 := grown_belowT (B := w5.heap.size) (x := w5) (by repeat (first | exact Below.refl _ _ | refine blAlloc ?_ _ | refine blQ ?_ _ | refine Below.drew ?_)) ((own_emptyN w5 w5.heap.size w5.heap.size rfl (Nat.le_refl _)).later (by repeat (first | exact Below.refl _ _ | refine blAlloc ?_ _ | refine blQ ?_ _ | refine Below.drew ?_))) (Nat.le_refl _) (by simp <;> omega) h2; clear h1 h2)
                          | (refine step_append_tx (w := ((w5.alloc (.cells #[] 9)).alloc (.cells #[.string s.2] 9)).drew) (by rfl) (.tmp 69) (.tmp 72) (by rfl) w5.heap.size _ [] (by rfl) ((own_emptyN w5 w5.heap.size w5.heap.size rfl (Nat.le_refl _)).later (by repeat (first | exact Below.refl _ _ | refine blAlloc ?_ _ | refine blQ ?_ _ | refine Below.drew ?_))) _ (mm.take r) (by rfl) (HT1.out.later (by repeat (first | exact Below.refl _ _ | refine blAlloc ?_ _ | refine blQ ?_ _ | refine Below.drew ?_))) (by have := HLT.out; simp only [List.length_nil]; omega) (by simp <;> omega) ?_; intro v1 w6 h1 h2; have H1 := Lib.hid h1; have hbS : Below w5.heap.size w5 w6 := grown_belowT (B := w5.heap.size) (x := w5) (by repeat (first | exact Below.refl _ _ | refine blAlloc ?_ _ | refine blQ ?_ _ | refine Below.drew ?_)) ((own_emptyN w5 w5.heap.size w5.heap.size rfl (Nat.le_refl _)).later (by repeat (first | exact Below.refl _ _ | refine blAlloc ?_ _ | refine blQ ?_ _ | refine Below.drew ?_))) (Nat.le_refl _) (by simp <;> omega) h2; have HX := Lib.hid (tl_grown ((one_newT (w5.alloc (.cells #[] 9)) s.2 (w5.heap.size + 1) (by simp)).later (wr := ((w5.alloc (.cells #[] 9)).alloc (.cells #[.string s.2] 9)).drew) (by repeat (first | exact Below.refl _ _ | refine blAlloc ?_ _ | refine blQ ?_ _ | refine Below.drew ?_))) rfl h2 (fun g o hgo => by simp only [Option.some.injEq, Addr.mk.injEq] at hgo; simp [Value.ownBlock]; omega)); clear h1 h2)
                          | (refine step_append_tx (w := ((w5.alloc (.cells #[.string s.2] 9)).alloc (.cells #[] 9)).drew) (by rfl) (.tmp 69) (.tmp 72) (by rfl) w5.heap.size _ [] (by rfl) ((own_emptyN (w5.alloc (.cells #[.string s.2] 9)) (w5.heap.size + 1) w5.heap.size (by simp) (by omega)).later (by repeat (first | exact Below.refl _ _ | refine blAlloc ?_ _ | refine blQ ?_ _ | refine Below.drew ?_))) _ (mm.take r) (by rfl) (HT1.out.later (by repeat (first | exact Below.refl _ _ | refine blAlloc ?_ _ | refine blQ ?_ _ | refine Below.drew ?_))) (by have := HLT.out; simp only [List.length_nil]; omega) (by simp <;> omega) ?_; intro v1 w6 h1 h2; have H1 := Lib.hid h1; have hbS : Below w5.heap.size w5 w6 := grown_belowT (B := w5.heap.size) (x := w5) (by repeat (first | exact Below.refl _ _ | refine blAlloc ?_ _ | refine blQ ?_ _ | refine Below.drew ?_)) ((own_emptyN (w5.alloc (.cells #[.string s.2] 9)) (w5.heap.size + 1) w5.heap.size (by simp) (by omega)).later (by repeat (first | exact Below.refl _ _ | refine blAlloc ?_ _ | refine blQ ?_ _ | refine Below.drew ?_))) (Nat.le_refl _) (by simp <;> omega) h2; have HX := Lib.hid (tl_grown ((one_newT w5 s.2 w5.heap.size rfl).later (wr := ((w5.alloc (.cells #[.string s.2] 9)).alloc (.cells #[] 9)).drew) (by repeat (first | exact Below.refl _ _ | refine blAlloc ?_ _ | refine blQ ?_ _ | refine Below.drew ?_))) rfl h2 (fun g o hgo => by simp only [Option.some.injEq, Addr.mk.injEq] at hgo; simp [Value.ownBlock]; omega)); clear h1 h2)
                          | (refine step_append_tx (by rfl) (.tmp 73) (.tmp 78) (by rfl) w5.heap.size _ ([] ++ mm.take r) (by rfl) (H1.out.later (blAlloc (Below.refl w6.heap.size w6) (.cells #[.string s.2] 9))) _ [s.2] (by rfl) (one_newT w6 s.2 _ rfl) (by have := HLT.out; simp only [List.nil_append, List.length_cons, List.length_nil]; omega) (by have := hbS.size; simp; omega) ?_; intro v2 w7 h1 h2; have H2 := Lib.hid h1; have hbS2 : Below w5.heap.size w5 w7 := grown_belowT (B := w5.heap.size) (x := w5) (by first | exact hbS | exact blAlloc hbS _) (H1.out.later (blAlloc (Below.refl w6.heap.size w6) (.cells #[.string s.2] 9))) (Nat.le_refl _) (by have := hbS.size; simp; omega) h2; clear h1 h2)
                          | (refine step_append_tx (by rfl) (.tmp 73) (.tmp 78) (by rfl) w5.heap.size _ ([] ++ mm.take r) (by rfl) (H1.out) _ [s.2] (by rfl) (HX.out) (by have := HLT.out; simp only [List.nil_append, List.length_cons, List.length_nil]; omega) (by have := hbS.size; simp; omega) ?_; intro v2 w7 h1 h2; have H2 := Lib.hid h1; have hbS2 : Below w5.heap.size w5 w7 := grown_belowT (B := w5.heap.size) (x := w5) (by first | exact hbS | exact blAlloc hbS _) (H1.out) (Nat.le_refl _) (by have := hbS.size; simp; omega) h2; clear h1 h2)
                          | (refine step_append_tx (by rfl) (.tmp 79) (.tmp 82) (by rfl) w5.heap.size _ ([] ++ mm.take r ++ [s.2]) (by rfl) (H2.out) _ (mm.drop r) (by rfl) (HT2.out.later hbS2) (by first | (simp; done) | (have := HLT.out; have := HLD.out; simp only [List.nil_append, List.length_append, List.length_cons, List.length_nil]; omega)) hbS2.size ?_; intro v3 w8 h1 h2; have H3 := Lib.hid h1; have hbS3 : Below w5.heap.size w5 w8 := grown_belowT (B := w5.heap.size) (x := w5) hbS2 H2.out (Nat.le_refl _) hbS2.size h2; clear h1 h2))
                      all_goals
                        have HFIN : Hid (OwnT w8 w.heap.size v3 (midT m s 2)) := by
                          show OwnT _ _ _ _
                          rw [HMM.out, HIN2.out]
                          have h := H3.out.mono (Nat.le_trans HB1.out.size HB5.out.size)
                          rwa [ins_eq] at h
                        have HBF := Lib.hid (HB5.out.trans (hbS3.mono HB5.out.size))
                        clear hbS hbS2 hbS3
                        go_wp2
                        go_roundw
                        case rel => exact ⟨2, by omega, by go_num, HFIN.out, HBF.out⟩
                        case measure => simp [intOf]
                    · have HEQ : Hid (insT s.2 mm = mm) := by
                        show insT s.2 mm = mm
                        have e : y = s.2 := text_ext (by simpa using heq)
                        rw [HINS.out, if_pos]
                        rw [HY.out, e]
                      go_wp2
                      go_quiet (fail)
                      have hbQ : Below w4.heap.size w4 (w4.drewN nq) := blQ (Below.refl _ _) nq
                      generalize w4.drewN nq = w5 at hbQ ⊢
                      clear nq
                      go_wp2
                      go_roundw
                      case rel => exact ⟨2, by omega, by go_num, by rw [HMM.out, HEQ.out]; exact HO4.out.later hbQ, HB4.out.trans (hbQ.mono HB4.out.size)⟩
                      case measure => simp [intOf]
                  · have hlx : Op.bytesLess y.toList s.2.toList = true := hyx
                    have HLX := Lib.hid hyx
                    clear hyx
                    go_wp2
                    go_quiet (fail)
                    have hbX : Below w2.heap.size w2 (w3.drewN nq) := HB23.out.trans ((blQ (Below.refl _ _) nq).mono HB23.out.size)
                    go_wp2
                    go_roundw
                    case rel => exact ⟨r + 1, hrl, by go_num, fun j u hj hu => by
                      rcases Nat.lt_or_ge j r with h | h
                      · exact HPRE.out j u h hu
                      · obtain rfl : j = r := by omega
                        rw [HY.out] at hu
                        cases hu
                        exact HLX.out, hbX⟩
                    case measure => simp [intOf]; omega
              · obtain rfl : r = mm.length := by omega
                have HIN2 : Hid (insT s.2 mm = mm.take mm.length ++ ([s.2] ++ mm.drop mm.length)) := by
                  show _ = _
                  rw [insT_at s.2 mm mm.length HPRE.out (fun z hz => by simp at hz) (Nat.le_refl _), if_neg (by simp)]
                have hd : decide ((mm.length : Int) < (mm.length : Int)) = false := by simp
                have hreq : ((mm.length : Int) == (mm.length : Int)) = true := by simp
                go_wp2
                go_quiet (fail)
                have hbQ : Below w3.heap.size w3 (w3.drewN nq) := blQ (Below.refl _ _) nq
                generalize w3.drewN nq = w4 at hbQ ⊢
                clear nq
                have f0' := cell_in hbQ hBl3 f0
                have hBl4 := Nat.lt_of_lt_of_le hBl3 hbQ.size
                have HB4 := Lib.hid (HB3.out.trans (hbQ.mono HB3.out.size))
                have HO4 := Lib.hid (HO3.out.later hbQ)
                clear f0 hbQ hBl3
                go_wp2
                go_quiet (fail)
                have hbQ : Below w4.heap.size w4 (w4.drewN nq) := blQ (Below.refl _ _) nq
                generalize w4.drewN nq = w5 at hbQ ⊢
                clear nq
                have fx := cell_in hbQ hBl4 f0'
                have hBl5 := Nat.lt_of_lt_of_le hBl4 hbQ.size
                have HB5 := Lib.hid (HB4.out.trans (hbQ.mono HB4.out.size))
                have HO5 := Lib.hid (HO4.out.later hbQ)
                clear f0' hbQ hBl4
                rcases HO5.out.row with ⟨he, hnil⟩ | ⟨g2, cap, he, hg2, hg2w5, hn2, hcm2, _⟩
                · simp only [Value.slice.injEq] at he
                  obtain ⟨rfl, hl0, rfl⟩ := he
                  subst hnil
                  rw [List.length_nil] at HIN2 HO5 ⊢
                  clear hm2 hr hd hreq hrl hl0
                  go_wp2
                  have HT1 : Hid (Tl w5 (.slice none 0 0) (([] : List ByteArray).take 0)) := tl_empty w5 none 0 (fun _ => rfl)
                  have HT2 : Hid (Tl w5 (.slice none 0 0) (([] : List ByteArray).drop 0)) := tl_empty w5 none 0 (fun _ => rfl)
                  have HLT : Hid ((([] : List ByteArray).take 0).length = 0) := by show (([] : List ByteArray).take 0).length = 0; rw [List.length_take]; first | omega | rfl
                  have HLD : Hid ((([] : List ByteArray).drop 0).length = ([] : List ByteArray).length - 0) := by show _ = _; rw [List.length_drop]
                  go_region_held3 (fun w' => Below w5.heap.size w5 w' ∧ w'.cell? ⟨Bb, 1, none⟩ = some (.string s.2)) ((refine keepT ?_ hBl5 fx; (repeat (first | assumption | exact Below.refl _ _ | refine blAlloc ?_ _ | refine blQ ?_ _ | refine Below.drew ?_))))
                    (first
                      | (refine step_append_tx (w := (w5.alloc (.cells #[] 9)).drew) (by rfl) (.tmp 69) (.tmp 72) (by rfl) w5.heap.size _ [] (by rfl) ((own_emptyN w5 w5.heap.size w5.heap.size rfl (Nat.le_refl _)).later (by repeat (first | exact Below.refl _ _ | refine blAlloc ?_ _ | refine blQ ?_ _ | refine Below.drew ?_))) _ (([] : List ByteArray).take 0) (by rfl) (HT1.out.later (by repeat (first | exact Below.refl _ _ | refine blAlloc ?_ _ | refine blQ ?_ _ | refine Below.drew ?_))) (by have := HLT.out; simp only [List.length_nil]; omega) (by simp <;> omega) ?_; intro v1 w6 h1 h2; have H1 := Lib.hid h1; have hbS : Below w5.heap.size w5 w6 := grown_belowT (B := w5.heap.size) (x := w5) (by repeat (first | exact Below.refl _ _ | refine blAlloc ?_ _ | refine blQ ?_ _ | refine Below.drew ?_)) ((own_emptyN w5 w5.heap.size w5.heap.size rfl (Nat.le_refl _)).later (by repeat (first | exact Below.refl _ _ | refine blAlloc ?_ _ | refine blQ ?_ _ | refine Below.drew ?_))) (Nat.le_refl _) (by simp <;> omega) h2; clear h1 h2)
                      | (refine step_append_tx (w := ((w5.alloc (.cells #[] 9)).alloc (.cells #[.string s.2] 9)).drew) (by rfl) (.tmp 69) (.tmp 72) (by rfl) w5.heap.size _ [] (by rfl) ((own_emptyN w5 w5.heap.size w5.heap.size rfl (Nat.le_refl _)).later (by repeat (first | exact Below.refl _ _ | refine blAlloc ?_ _ | refine blQ ?_ _ | refine Below.drew ?_))) _ (([] : List ByteArray).take 0) (by rfl) (HT1.out.later (by repeat (first | exact Below.refl _ _ | refine blAlloc ?_ _ | refine blQ ?_ _ | refine Below.drew ?_))) (by have := HLT.out; simp only [List.length_nil]; omega) (by simp <;> omega) ?_; intro v1 w6 h1 h2; have H1 := Lib.hid h1; have hbS : Below w5.heap.size w5 w6 := grown_belowT (B := w5.heap.size) (x := w5) (by repeat (first | exact Below.refl _ _ | refine blAlloc ?_ _ | refine blQ ?_ _ | refine Below.drew ?_)) ((own_emptyN w5 w5.heap.size w5.heap.size rfl (Nat.le_refl _)).later (by repeat (first | exact Below.refl _ _ | refine blAlloc ?_ _ | refine blQ ?_ _ | refine Below.drew ?_))) (Nat.le_refl _) (by simp <;> omega) h2; have HX := Lib.hid (tl_grown ((one_newT (w5.alloc (.cells #[] 9)) s.2 (w5.heap.size + 1) (by simp)).later (wr := ((w5.alloc (.cells #[] 9)).alloc (.cells #[.string s.2] 9)).drew) (by repeat (first | exact Below.refl _ _ | refine blAlloc ?_ _ | refine blQ ?_ _ | refine Below.drew ?_))) rfl h2 (fun g o hgo => by simp only [Option.some.injEq, Addr.mk.injEq] at hgo; simp [Value.ownBlock]; omega)); clear h1 h2)
                      | (refine step_append_tx (w := ((w5.alloc (.cells #[.string s.2] 9)).alloc (.cells #[] 9)).drew) (by rfl) (.tmp 69) (.tmp 72) (by rfl) w5.heap.size _ [] (by rfl) ((own_emptyN (w5.alloc (.cells #[.string s.2] 9)) (w5.heap.size + 1) w5.heap.size (by simp) (by omega)).later (by repeat (first | exact Below.refl _ _ | refine blAlloc ?_ _ | refine blQ ?_ _ | refine Below.drew ?_))) _ (([] : List ByteArray).take 0) (by rfl) (HT1.out.later (by repeat (first | exact Below.refl _ _ | refine blAlloc ?_ _ | refine blQ ?_ _ | refine Below.drew ?_))) (by have := HLT.out; simp only [List.length_nil]; omega) (by simp <;> omega) ?_; intro v1 w6 h1 h2; have H1 := Lib.hid h1; have hbS : Below w5.heap.size w5 w6 := grown_belowT (B := w5.heap.size) (x := w5) (by repeat (first | exact Below.refl _ _ | refine blAlloc ?_ _ | refine blQ ?_ _ | refine Below.drew ?_)) ((own_emptyN (w5.alloc (.cells #[.string s.2] 9)) (w5.heap.size + 1) w5.heap.size (by simp) (by omega)).later (by repeat (first | exact Below.refl _ _ | refine blAlloc ?_ _ | refine blQ ?_ _ | refine Below.drew ?_))) (Nat.le_refl _) (by simp <;> omega) h2; have HX := Lib.hid (tl_grown ((one_newT w5 s.2 w5.heap.size rfl).later (wr := ((w5.alloc (.cells #[.string s.2] 9)).alloc (.cells #[] 9)).drew) (by repeat (first | exact Below.refl _ _ | refine blAlloc ?_ _ | refine blQ ?_ _ | refine Below.drew ?_))) rfl h2 (fun g o hgo => by simp only [Option.some.injEq, Addr.mk.injEq] at hgo; simp [Value.ownBlock]; omega)); clear h1 h2)
                      | (refine step_append_tx (by rfl) (.tmp 73) (.tmp 78) (by rfl) w5.heap.size _ ([] ++ ([] : List ByteArray).take 0) (by rfl) (H1.out.later (blAlloc (Below.refl w6.heap.size w6) (.cells #[.string s.2] 9))) _ [s.2] (by rfl) (one_newT w6 s.2 _ rfl) (by have := HLT.out; simp only [List.nil_append, List.length_cons, List.length_nil]; omega) (by have := hbS.size; simp; omega) ?_; intro v2 w7 h1 h2; have H2 := Lib.hid h1; have hbS2 : Below w5.heap.size w5 w7 := grown_belowT (B := w5.heap.size) (x := w5) (by first | exact hbS | exact blAlloc hbS _) (H1.out.later (blAlloc (Below.refl w6.heap.size w6) (.cells #[.string s.2] 9))) (Nat.le_refl _) (by have := hbS.size; simp; omega) h2; clear h1 h2)
                      | (refine step_append_tx (by rfl) (.tmp 73) (.tmp 78) (by rfl) w5.heap.size _ ([] ++ ([] : List ByteArray).take 0) (by rfl) (H1.out) _ [s.2] (by rfl) (HX.out) (by have := HLT.out; simp only [List.nil_append, List.length_cons, List.length_nil]; omega) (by have := hbS.size; simp; omega) ?_; intro v2 w7 h1 h2; have H2 := Lib.hid h1; have hbS2 : Below w5.heap.size w5 w7 := grown_belowT (B := w5.heap.size) (x := w5) (by first | exact hbS | exact blAlloc hbS _) (H1.out) (Nat.le_refl _) (by have := hbS.size; simp; omega) h2; clear h1 h2)
                      | (refine step_append_tx (by rfl) (.tmp 79) (.tmp 82) (by rfl) w5.heap.size _ ([] ++ ([] : List ByteArray).take 0 ++ [s.2]) (by rfl) (H2.out) _ (([] : List ByteArray).drop 0) (by rfl) (HT2.out.later hbS2) (by first | (simp; done) | (have := HLT.out; have := HLD.out; simp only [List.nil_append, List.length_append, List.length_cons, List.length_nil]; omega)) hbS2.size ?_; intro v3 w8 h1 h2; have H3 := Lib.hid h1; have hbS3 : Below w5.heap.size w5 w8 := grown_belowT (B := w5.heap.size) (x := w5) hbS2 H2.out (Nat.le_refl _) hbS2.size h2; clear h1 h2))
                  all_goals
                    have HFIN : Hid (OwnT w8 w.heap.size v3 (midT m s 2)) := by
                      show OwnT _ _ _ _
                      rw [HMM.out, HIN2.out]
                      have h := H3.out.mono (Nat.le_trans HB1.out.size HB5.out.size)
                      rwa [ins_eq] at h
                    have HBF := Lib.hid (HB5.out.trans (hbS3.mono HB5.out.size))
                    clear hbS hbS2 hbS3
                    go_wp2
                    go_roundw
                    case rel => exact ⟨2, by omega, by go_num, HFIN.out, HBF.out⟩
                    case measure => simp [intOf]
                · simp only [Value.slice.injEq, true_and] at he
                  obtain ⟨rfl, rfl⟩ := he
                  by_cases hcr : cv2 = mm.length
                  · subst hcr
                    go_wp2
                    have HT1 : Hid (Tl w5 (.slice (some ⟨g2, 0, none⟩) mm.length mm.length) (mm.take mm.length)) := tl_take HO5.out.tl mm.length (Nat.le_refl _)
                    have HT2 : Hid (Tl w5 (.slice (some ⟨g2, 0, none⟩) 0 0) (mm.drop mm.length)) := by show Tl _ _ _; rw [List.drop_length]; exact tl_empty w5 _ 0 (fun _ => rfl)
                    have hkl : (mm.length : Int) ≤ (mm.length : Int) := by omega
                    have HLT : Hid ((mm.take mm.length).length = mm.length) := by show (mm.take mm.length).length = mm.length; rw [List.length_take]; first | omega | rfl
                    have HLD : Hid ((mm.drop mm.length).length = mm.length - mm.length) := by show _ = _; rw [List.length_drop]
                    go_region_held3 (fun w' => Below w5.heap.size w5 w' ∧ w'.cell? ⟨Bb, 1, none⟩ = some (.string s.2)) ((refine keepT ?_ hBl5 fx; (repeat (first | assumption | exact Below.refl _ _ | refine blAlloc ?_ _ | refine blQ ?_ _ | refine Below.drew ?_))))
                      (first
                        | (refine step_append_tx (w := (w5.alloc (.cells #[] 9)).drew) (by rfl) (.tmp 69) (.tmp 72) (by rfl) w5.heap.size _ [] (by rfl) ((own_emptyN w5 w5.heap.size w5.heap.size rfl (Nat.le_refl _)).later (by repeat (first | exact Below.refl _ _ | refine blAlloc ?_ _ | refine blQ ?_ _ | refine Below.drew ?_))) _ (mm.take mm.length) (by rfl) (HT1.out.later (by repeat (first | exact Below.refl _ _ | refine blAlloc ?_ _ | refine blQ ?_ _ | refine Below.drew ?_))) (by have := HLT.out; simp only [List.length_nil]; omega) (by simp <;> omega) ?_; intro v1 w6 h1 h2; have H1 := Lib.hid h1; have hbS : Below w5.heap.size w5 w6 := grown_belowT (B := w5.heap.size) (x := w5) (by repeat (first | exact Below.refl _ _ | refine blAlloc ?_ _ | refine blQ ?_ _ | refine Below.drew ?_)) ((own_emptyN w5 w5.heap.size w5.heap.size rfl (Nat.le_refl _)).later (by repeat (first | exact Below.refl _ _ | refine blAlloc ?_ _ | refine blQ ?_ _ | refine Below.drew ?_))) (Nat.le_refl _) (by simp <;> omega) h2; clear h1 h2)
                        | (refine step_append_tx (w := ((w5.alloc (.cells #[] 9)).alloc (.cells #[.string s.2] 9)).drew) (by rfl) (.tmp 69) (.tmp 72) (by rfl) w5.heap.size _ [] (by rfl) ((own_emptyN w5 w5.heap.size w5.heap.size rfl (Nat.le_refl _)).later (by repeat (first | exact Below.refl _ _ | refine blAlloc ?_ _ | refine blQ ?_ _ | refine Below.drew ?_))) _ (mm.take mm.length) (by rfl) (HT1.out.later (by repeat (first | exact Below.refl _ _ | refine blAlloc ?_ _ | refine blQ ?_ _ | refine Below.drew ?_))) (by have := HLT.out; simp only [List.length_nil]; omega) (by simp <;> omega) ?_; intro v1 w6 h1 h2; have H1 := Lib.hid h1; have hbS : Below w5.heap.size w5 w6 := grown_belowT (B := w5.heap.size) (x := w5) (by repeat (first | exact Below.refl _ _ | refine blAlloc ?_ _ | refine blQ ?_ _ | refine Below.drew ?_)) ((own_emptyN w5 w5.heap.size w5.heap.size rfl (Nat.le_refl _)).later (by repeat (first | exact Below.refl _ _ | refine blAlloc ?_ _ | refine blQ ?_ _ | refine Below.drew ?_))) (Nat.le_refl _) (by simp <;> omega) h2; have HX := Lib.hid (tl_grown ((one_newT (w5.alloc (.cells #[] 9)) s.2 (w5.heap.size + 1) (by simp)).later (wr := ((w5.alloc (.cells #[] 9)).alloc (.cells #[.string s.2] 9)).drew) (by repeat (first | exact Below.refl _ _ | refine blAlloc ?_ _ | refine blQ ?_ _ | refine Below.drew ?_))) rfl h2 (fun g o hgo => by simp only [Option.some.injEq, Addr.mk.injEq] at hgo; simp [Value.ownBlock]; omega)); clear h1 h2)
                        | (refine step_append_tx (w := ((w5.alloc (.cells #[.string s.2] 9)).alloc (.cells #[] 9)).drew) (by rfl) (.tmp 69) (.tmp 72) (by rfl) w5.heap.size _ [] (by rfl) ((own_emptyN (w5.alloc (.cells #[.string s.2] 9)) (w5.heap.size + 1) w5.heap.size (by simp) (by omega)).later (by repeat (first | exact Below.refl _ _ | refine blAlloc ?_ _ | refine blQ ?_ _ | refine Below.drew ?_))) _ (mm.take mm.length) (by rfl) (HT1.out.later (by repeat (first | exact Below.refl _ _ | refine blAlloc ?_ _ | refine blQ ?_ _ | refine Below.drew ?_))) (by have := HLT.out; simp only [List.length_nil]; omega) (by simp <;> omega) ?_; intro v1 w6 h1 h2; have H1 := Lib.hid h1; have hbS : Below w5.heap.size w5 w6 := grown_belowT (B := w5.heap.size) (x := w5) (by repeat (first | exact Below.refl _ _ | refine blAlloc ?_ _ | refine blQ ?_ _ | refine Below.drew ?_)) ((own_emptyN (w5.alloc (.cells #[.string s.2] 9)) (w5.heap.size + 1) w5.heap.size (by simp) (by omega)).later (by repeat (first | exact Below.refl _ _ | refine blAlloc ?_ _ | refine blQ ?_ _ | refine Below.drew ?_))) (Nat.le_refl _) (by simp <;> omega) h2; have HX := Lib.hid (tl_grown ((one_newT w5 s.2 w5.heap.size rfl).later (wr := ((w5.alloc (.cells #[.string s.2] 9)).alloc (.cells #[] 9)).drew) (by repeat (first | exact Below.refl _ _ | refine blAlloc ?_ _ | refine blQ ?_ _ | refine Below.drew ?_))) rfl h2 (fun g o hgo => by simp only [Option.some.injEq, Addr.mk.injEq] at hgo; simp [Value.ownBlock]; omega)); clear h1 h2)
                        | (refine step_append_tx (by rfl) (.tmp 73) (.tmp 78) (by rfl) w5.heap.size _ ([] ++ mm.take mm.length) (by rfl) (H1.out.later (blAlloc (Below.refl w6.heap.size w6) (.cells #[.string s.2] 9))) _ [s.2] (by rfl) (one_newT w6 s.2 _ rfl) (by have := HLT.out; simp only [List.nil_append, List.length_cons, List.length_nil]; omega) (by have := hbS.size; simp; omega) ?_; intro v2 w7 h1 h2; have H2 := Lib.hid h1; have hbS2 : Below w5.heap.size w5 w7 := grown_belowT (B := w5.heap.size) (x := w5) (by first | exact hbS | exact blAlloc hbS _) (H1.out.later (blAlloc (Below.refl w6.heap.size w6) (.cells #[.string s.2] 9))) (Nat.le_refl _) (by have := hbS.size; simp; omega) h2; clear h1 h2)
                        | (refine step_append_tx (by rfl) (.tmp 73) (.tmp 78) (by rfl) w5.heap.size _ ([] ++ mm.take mm.length) (by rfl) (H1.out) _ [s.2] (by rfl) (HX.out) (by have := HLT.out; simp only [List.nil_append, List.length_cons, List.length_nil]; omega) (by have := hbS.size; simp; omega) ?_; intro v2 w7 h1 h2; have H2 := Lib.hid h1; have hbS2 : Below w5.heap.size w5 w7 := grown_belowT (B := w5.heap.size) (x := w5) (by first | exact hbS | exact blAlloc hbS _) (H1.out) (Nat.le_refl _) (by have := hbS.size; simp; omega) h2; clear h1 h2)
                        | (refine step_append_tx (by rfl) (.tmp 79) (.tmp 82) (by rfl) w5.heap.size _ ([] ++ mm.take mm.length ++ [s.2]) (by rfl) (H2.out) _ (mm.drop mm.length) (by rfl) (HT2.out.later hbS2) (by first | (simp; done) | (have := HLT.out; have := HLD.out; simp only [List.nil_append, List.length_append, List.length_cons, List.length_nil]; omega)) hbS2.size ?_; intro v3 w8 h1 h2; have H3 := Lib.hid h1; have hbS3 : Below w5.heap.size w5 w8 := grown_belowT (B := w5.heap.size) (x := w5) hbS2 H2.out (Nat.le_refl _) hbS2.size h2; clear h1 h2))
                    all_goals
                      have HFIN : Hid (OwnT w8 w.heap.size v3 (midT m s 2)) := by
                        show OwnT _ _ _ _
                        rw [HMM.out, HIN2.out]
                        have h := H3.out.mono (Nat.le_trans HB1.out.size HB5.out.size)
                        rwa [ins_eq] at h
                      have HBF := Lib.hid (HB5.out.trans (hbS3.mono HB5.out.size))
                      clear hbS hbS2 hbS3
                      go_wp2
                      go_roundw
                      case rel => exact ⟨2, by omega, by go_num, HFIN.out, HBF.out⟩
                      case measure => simp [intOf]
                  · go_wp2
                    have HT1 : Hid (Tl w5 (.slice (some ⟨g2, 0, none⟩) mm.length cv2) (mm.take mm.length)) := tl_take HO5.out.tl mm.length (Nat.le_refl _)
                    have HT2 : Hid (Tl w5 (.slice (some ⟨g2, mm.length, none⟩) 0 (cv2 - mm.length)) (mm.drop mm.length)) := by show Tl _ _ _; rw [List.drop_length]; exact tl_empty w5 _ _ (fun h => by cases h)
                    have hkc : (mm.length : Int) ≤ (cv2 : Int) := by omega
                    have hkl : (mm.length : Int) ≤ (mm.length : Int) := by omega
                    have HLT : Hid ((mm.take mm.length).length = mm.length) := by show (mm.take mm.length).length = mm.length; rw [List.length_take]; first | omega | rfl
                    have HLD : Hid ((mm.drop mm.length).length = mm.length - mm.length) := by show _ = _; rw [List.length_drop]
                    go_region_held3 (fun w' => Below w5.heap.size w5 w' ∧ w'.cell? ⟨Bb, 1, none⟩ = some (.string s.2)) ((refine keepT ?_ hBl5 fx; (repeat (first | assumption | exact Below.refl _ _ | refine blAlloc ?_ _ | refine blQ ?_ _ | refine Below.drew ?_))))
                      (first
                        | (refine step_append_tx (w := (w5.alloc (.cells #[] 9)).drew) (by rfl) (.tmp 69) (.tmp 72) (by rfl) w5.heap.size _ [] (by rfl) ((own_emptyN w5 w5.heap.size w5.heap.size rfl (Nat.le_refl _)).later (by repeat (first | exact Below.refl _ _ | refine blAlloc ?_ _ | refine blQ ?_ _ | refine Below.drew ?_))) _ (mm.take mm.length) (by rfl) (HT1.out.later (by repeat (first | exact Below.refl _ _ | refine blAlloc ?_ _ | refine blQ ?_ _ | refine Below.drew ?_))) (by have := HLT.out; simp only [List.length_nil]; omega) (by simp <;> omega) ?_; intro v1 w6 h1 h2; have H1 := Lib.hid h1; have hbS : Below w5.heap.size w5 w6 := grown_belowT (B := w5.heap.size) (x := w5) (by repeat (first | exact Below.refl _ _ | refine blAlloc ?_ _ | refine blQ ?_ _ | refine Below.drew ?_)) ((own_emptyN w5 w5.heap.size w5.heap.size rfl (Nat.le_refl _)).later (by repeat (first | exact Below.refl _ _ | refine blAlloc ?_ _ | refine blQ ?_ _ | refine Below.drew ?_))) (Nat.le_refl _) (by simp <;> omega) h2; clear h1 h2)
                        | (refine step_append_tx (w := ((w5.alloc (.cells #[] 9)).alloc (.cells #[.string s.2] 9)).drew) (by rfl) (.tmp 69) (.tmp 72) (by rfl) w5.heap.size _ [] (by rfl) ((own_emptyN w5 w5.heap.size w5.heap.size rfl (Nat.le_refl _)).later (by repeat (first | exact Below.refl _ _ | refine blAlloc ?_ _ | refine blQ ?_ _ | refine Below.drew ?_))) _ (mm.take mm.length) (by rfl) (HT1.out.later (by repeat (first | exact Below.refl _ _ | refine blAlloc ?_ _ | refine blQ ?_ _ | refine Below.drew ?_))) (by have := HLT.out; simp only [List.length_nil]; omega) (by simp <;> omega) ?_; intro v1 w6 h1 h2; have H1 := Lib.hid h1; have hbS : Below w5.heap.size w5 w6 := grown_belowT (B := w5.heap.size) (x := w5) (by repeat (first | exact Below.refl _ _ | refine blAlloc ?_ _ | refine blQ ?_ _ | refine Below.drew ?_)) ((own_emptyN w5 w5.heap.size w5.heap.size rfl (Nat.le_refl _)).later (by repeat (first | exact Below.refl _ _ | refine blAlloc ?_ _ | refine blQ ?_ _ | refine Below.drew ?_))) (Nat.le_refl _) (by simp <;> omega) h2; have HX := Lib.hid (tl_grown ((one_newT (w5.alloc (.cells #[] 9)) s.2 (w5.heap.size + 1) (by simp)).later (wr := ((w5.alloc (.cells #[] 9)).alloc (.cells #[.string s.2] 9)).drew) (by repeat (first | exact Below.refl _ _ | refine blAlloc ?_ _ | refine blQ ?_ _ | refine Below.drew ?_))) rfl h2 (fun g o hgo => by simp only [Option.some.injEq, Addr.mk.injEq] at hgo; simp [Value.ownBlock]; omega)); clear h1 h2)
                        | (refine step_append_tx (w := ((w5.alloc (.cells #[.string s.2] 9)).alloc (.cells #[] 9)).drew) (by rfl) (.tmp 69) (.tmp 72) (by rfl) w5.heap.size _ [] (by rfl) ((own_emptyN (w5.alloc (.cells #[.string s.2] 9)) (w5.heap.size + 1) w5.heap.size (by simp) (by omega)).later (by repeat (first | exact Below.refl _ _ | refine blAlloc ?_ _ | refine blQ ?_ _ | refine Below.drew ?_))) _ (mm.take mm.length) (by rfl) (HT1.out.later (by repeat (first | exact Below.refl _ _ | refine blAlloc ?_ _ | refine blQ ?_ _ | refine Below.drew ?_))) (by have := HLT.out; simp only [List.length_nil]; omega) (by simp <;> omega) ?_; intro v1 w6 h1 h2; have H1 := Lib.hid h1; have hbS : Below w5.heap.size w5 w6 := grown_belowT (B := w5.heap.size) (x := w5) (by repeat (first | exact Below.refl _ _ | refine blAlloc ?_ _ | refine blQ ?_ _ | refine Below.drew ?_)) ((own_emptyN (w5.alloc (.cells #[.string s.2] 9)) (w5.heap.size + 1) w5.heap.size (by simp) (by omega)).later (by repeat (first | exact Below.refl _ _ | refine blAlloc ?_ _ | refine blQ ?_ _ | refine Below.drew ?_))) (Nat.le_refl _) (by simp <;> omega) h2; have HX := Lib.hid (tl_grown ((one_newT w5 s.2 w5.heap.size rfl).later (wr := ((w5.alloc (.cells #[.string s.2] 9)).alloc (.cells #[] 9)).drew) (by repeat (first | exact Below.refl _ _ | refine blAlloc ?_ _ | refine blQ ?_ _ | refine Below.drew ?_))) rfl h2 (fun g o hgo => by simp only [Option.some.injEq, Addr.mk.injEq] at hgo; simp [Value.ownBlock]; omega)); clear h1 h2)
                        | (refine step_append_tx (by rfl) (.tmp 73) (.tmp 78) (by rfl) w5.heap.size _ ([] ++ mm.take mm.length) (by rfl) (H1.out.later (blAlloc (Below.refl w6.heap.size w6) (.cells #[.string s.2] 9))) _ [s.2] (by rfl) (one_newT w6 s.2 _ rfl) (by have := HLT.out; simp only [List.nil_append, List.length_cons, List.length_nil]; omega) (by have := hbS.size; simp; omega) ?_; intro v2 w7 h1 h2; have H2 := Lib.hid h1; have hbS2 : Below w5.heap.size w5 w7 := grown_belowT (B := w5.heap.size) (x := w5) (by first | exact hbS | exact blAlloc hbS _) (H1.out.later (blAlloc (Below.refl w6.heap.size w6) (.cells #[.string s.2] 9))) (Nat.le_refl _) (by have := hbS.size; simp; omega) h2; clear h1 h2)
                        | (refine step_append_tx (by rfl) (.tmp 73) (.tmp 78) (by rfl) w5.heap.size _ ([] ++ mm.take mm.length) (by rfl) (H1.out) _ [s.2] (by rfl) (HX.out) (by have := HLT.out; simp only [List.nil_append, List.length_cons, List.length_nil]; omega) (by have := hbS.size; simp; omega) ?_; intro v2 w7 h1 h2; have H2 := Lib.hid h1; have hbS2 : Below w5.heap.size w5 w7 := grown_belowT (B := w5.heap.size) (x := w5) (by first | exact hbS | exact blAlloc hbS _) (H1.out) (Nat.le_refl _) (by have := hbS.size; simp; omega) h2; clear h1 h2)
                        | (refine step_append_tx (by rfl) (.tmp 79) (.tmp 82) (by rfl) w5.heap.size _ ([] ++ mm.take mm.length ++ [s.2]) (by rfl) (H2.out) _ (mm.drop mm.length) (by rfl) (HT2.out.later hbS2) (by first | (simp; done) | (have := HLT.out; have := HLD.out; simp only [List.nil_append, List.length_append, List.length_cons, List.length_nil]; omega)) hbS2.size ?_; intro v3 w8 h1 h2; have H3 := Lib.hid h1; have hbS3 : Below w5.heap.size w5 w8 := grown_belowT (B := w5.heap.size) (x := w5) hbS2 H2.out (Nat.le_refl _) hbS2.size h2; clear h1 h2))
                    all_goals
                      have HFIN : Hid (OwnT w8 w.heap.size v3 (midT m s 2)) := by
                        show OwnT _ _ _ _
                        rw [HMM.out, HIN2.out]
                        have h := H3.out.mono (Nat.le_trans HB1.out.size HB5.out.size)
                        rwa [ins_eq] at h
                      have HBF := Lib.hid (HB5.out.trans (hbS3.mono HB5.out.size))
                      clear hbS hbS2 hbS3
                      go_wp2
                      go_roundw
                      case rel => exact ⟨2, by omega, by go_num, HFIN.out, HBF.out⟩
                      case measure => simp [intOf]
          · have hno : s.2.toList.isEmpty = true := hn
            have e2 : Hid (midT m s 2 = midT m s 1) := by
              show markS m s = insT s.1 m
              unfold markS
              rw [if_pos hn]
            clear hn
            obtain ⟨av2, cv2, rfl⟩ := HO2.out.form
            go_wp2
            go_roundw
            case rel => exact ⟨2, by omega, by go_num, by rw [e2.out]; exact HO2.out, HB2.out⟩
            case measure => simp [intOf]
    · obtain rfl : k = l.length := by omega
      have HF : Hid (marksL (l.take l.length) = marksL l) := by show _ = _; rw [List.take_length]
      obtain ⟨av, cv, rfl⟩ := ho.form
      rw [HF.out] at HO ⊢
      clear hb ho
      go_wp2
      go_ret
      exact ⟨_, rfl, HO.out, HB.out⟩

end Go.Proofs.Ytkgfpppbpjinaaa
