/- FlatMany: many at once are as one by one; Bytes take nothing away: whatever is laid, the law returns true and leaves its arguments as they were. Conditions: none. -/
import Derived.Test.YtjojjpfjennnoaaFt
namespace Go.Proofs.Ytjojjpfjennnoaa
open Go.ChangeShapes Go.WideShapes Go.ChangeAt Go.RowKit Go.Joins Go.Deep

theorem PenStep.after {b : Nat} {r r' : Option Nat} {x y z : World} (h : PenStep b r r' x y) (k : Below y.heap.size y z) : PenStep b r r' x z := ⟨h.keeps.then (ofB k), h.row⟩
theorem notPen2 {B g : Nat} {r : Option Nat} (hg : g < B ∨ g = B + 1) (hr : ∀ k, r = some k → B + 2 ≤ k) : ¬ PenS B r g := by
  rintro (e | e)
  · omega
  · have := hr g e; omega
/-- Of what came in, where it lies, seen from pens that are the call's own. -/
theorem SL.place {w : World} {g : Nat} {a : Option Addr} {l : List (Int × Int)} (h : SL w g a l) (hg : l ≠ [] → g < w.heap.size) (k : Nat) : ∃ g', SL w g' a l ∧ (g' < w.heap.size ∨ g' = k) := by
  by_cases hl : l = []
  · subst hl; exact ⟨k, fun h => absurd rfl h, .inr rfl⟩
  · exact ⟨g, h, .inl (hg hl)⟩
theorem stamp_new' (w : World) (x y : Int) (b : Nat) (hb : b = w.heap.size) (W : World) (hW : W.heap = (w.alloc (.cells #[.int .i64 x, .int .i64 y] 49)).heap) : SL W b (some ⟨b, 0, none⟩) [(x, y)] := by
  subst hb
  have h : W.heap[w.heap.size]? = some (.cells #[.int .i64 x, .int .i64 y] 49 (0, 0)) := by rw [hW]; exact heap_alloc_new w _
  intro _
  refine ⟨0, rfl, fun j p q hz => ?_⟩
  match j, hz with
  | 0, hz =>
    simp only [List.getElem?_cons_zero, Option.some.injEq, Prod.mk.injEq] at hz
    obtain ⟨rfl, rfl⟩ := hz
    exact ⟨by rw [cell_of_row W _ _ _ _ _ h]; rfl, by rw [cell_of_row W _ _ _ _ _ h]; rfl⟩

set_option maxRecDepth 100000 in
set_option maxHeartbeats 4000000 in
theorem flatMany_big (a1 : Option Addr) (c1 : Nat) (ns : List Int) (a2 : Option Addr) (c2 : Nat) (ss : List ByteArray) (a3 : Option Addr) (c3 : Nat) (l : List (Int × Int)) (w : World) (hm1 : ns.length ≤ maxLen) (hm2 : ss.length ≤ maxLen) (hm3 : l.length ≤ maxLen) (h : 60 < ns.length ∨ 60 < ss.length ∨ 60 < l.length) :
    Calls Try.prog 9 #[.slice a1 ns.length c1, .slice a2 ss.length c2, .slice a3 l.length c3] w fun e w' => e = .returned (.bool true) ∧ Below w.heap.size w w' := by
  unfold maxLen at hm1 hm2 hm3
  by_cases h1 : 60 < ns.length
  · go_enter Try.func9, Try.ntmps9
    go_wp2_with (go_at_call 13; refine (live_any _).mono ?_; rintro e w1 ⟨rfl, hb1⟩; have HB1 := Lib.hid hb1; clear hb1)
    go_ret
    exact ⟨rfl, HB1.out⟩
  · by_cases h2 : 60 < ss.length
    · go_enter Try.func9, Try.ntmps9
      go_wp2_with (go_at_call 13; refine (live_any _).mono ?_; rintro e w1 ⟨rfl, hb1⟩; have HB1 := Lib.hid hb1; clear hb1)
      go_ret
      exact ⟨rfl, HB1.out⟩
    · have h3 : 60 < l.length := by omega
      clear h
      go_enter Try.func9, Try.ntmps9
      go_wp2_with (go_at_call 13; refine (live_any _).mono ?_; rintro e w1 ⟨rfl, hb1⟩; have HB1 := Lib.hid hb1; clear hb1)
      go_ret
      exact ⟨rfl, HB1.out⟩

set_option maxRecDepth 100000 in
set_option maxHeartbeats 8000000 in
theorem flatMany_walk (a1 : Option Addr) (c1 g1 : Nat) (ns : List Int) (a2 : Option Addr) (c2 g2 : Nat) (ss : List ByteArray) (a3 : Option Addr) (c3 g3 : Nat) (l : List (Int × Int)) (w : World) (hm1 : ns.length ≤ maxLen) (hm2 : ss.length ≤ maxLen) (hm3 : l.length ≤ maxLen)
    (hi : IL w g1 a1 ns) (hg1 : ns ≠ [] → g1 < w.heap.size) (ht : TL w g2 a2 ss) (hg2 : ss ≠ [] → g2 < w.heap.size) (hz : ∀ (j : Nat) (s : ByteArray), ss[j]? = some s → s.size ≤ 140737488355328) (hl : SL w g3 a3 l) (hg3 : l ≠ [] → g3 < w.heap.size) :
    Calls Try.prog 9 #[.slice a1 ns.length c1, .slice a2 ss.length c2, .slice a3 l.length c3] w fun e w' => e = .returned (.bool true) ∧ Below w.heap.size w w' := by
  by_cases hbig : 60 < ns.length ∨ 60 < ss.length ∨ 60 < l.length
  · exact flatMany_big a1 c1 ns a2 c2 ss a3 c3 l w hm1 hm2 hm3 hbig
  · have h1 : ns.length ≤ 60 := by omega
    have h2 : ss.length ≤ 60 := by omega
    have h3 : l.length ≤ 60 := by omega
    have hd1 : decide ((60 : Int) < (ns.length : Int)) = false := by simp; omega
    have hd2 : decide ((60 : Int) < (ss.length : Int)) = false := by simp; omega
    have hd3 : decide ((60 : Int) < (l.length : Int)) = false := by simp; omega
    have hzz : szL ss ≤ 140737488355328 * ss.length := szL_le ss _ hz
    clear hbig hm1 hm2 hm3
    have HI := Lib.hid hi
    have HT := Lib.hid ht
    have HL := Lib.hid hl
    have HG1 := Lib.hid hg1
    have HG2 := Lib.hid hg2
    have HG3 := Lib.hid hg3
    have HZ := Lib.hid hz
    clear hi ht hl hg1 hg2 hg3 hz
    go_enter Try.func9, Try.ntmps9
    go_wp2_with fail
    go_loop [7, 8] (fun n i => ∃ j : Nat, j ≤ ss.length ∧ i = .int .i64 j ∧ n = .int .i64 (szL (ss.take j))) (fun _ i => ss.length - (intOf i).toNat)
    case atStart => exact ⟨0, Nat.zero_le _, rfl, rfl⟩
    case round =>
      obtain ⟨j, hj, rfl, rfl⟩ := hrel
      by_cases hlt : j < ss.length
      · obtain ⟨s, hs⟩ := get_lt hlt
        obtain ⟨o, rfl, hc⟩ := HT.out (not_nil hlt)
        have cx := hc j s hs
        have hsz := szL_take ss hs
        have hle : szL (ss.take (j + 1)) ≤ 140737488355328 * (j + 1) := by
          have h := szL_le (ss.take (j + 1)) 140737488355328 (fun i s hi => HZ.out i s (by
            have hil := (List.getElem?_eq_some_iff.1 hi).1
            rw [List.length_take] at hil
            rwa [List.getElem?_take_of_lt (by omega)] at hi))
          rw [List.length_take] at h
          have : min (j + 1) ss.length = j + 1 := by omega
          rwa [this] at h
        have hb : szL (ss.take j) + s.size ≤ 10000000000000000 := by omega
        have HSZ := Lib.hid hsz
        clear hc hs hsz hle
        go_wp2_with fail
        go_round
        case rel => exact ⟨j + 1, hlt, by go_num, by rw [HSZ.out]; go_num⟩
        case measure => simp [intOf]; omega
      · obtain rfl : j = ss.length := by omega
        have HTK : Hid (ss.take ss.length = ss) := List.take_length
        rw [HTK.out]
        by_cases hbig : 20000 < szL ss
        · go_wp2_with (go_at_call 13; refine (live_any _).mono ?_; rintro e w1 ⟨rfl, hb1⟩; have HB1 := Lib.hid hb1; clear hb1)
          go_ret
          exact ⟨rfl, HB1.out⟩
        · have hsmall : szL ss ≤ 20000 := by omega
          clear hbig hzz
          go_wp2_with fail
          have hK0 : Keeps (fun _ => False) w ((w.alloc (Obj.cells #[Value.slice none 0 0] 32)).alloc (Obj.cells #[Value.slice none 0 0] 32)) := (by repeat (first | with_reducible exact Keeps.refl _ _ | with_reducible refine kAlloc ?_ _ | with_reducible refine kDrew ?_))
          have hp : PenAt ((w.alloc (Obj.cells #[Value.slice none 0 0] 32)).alloc (Obj.cells #[Value.slice none 0 0] 32)) w.heap.size none [] := (pen_new w).before (Keeps.alloc _ _ _)
          have hq : PenAt ((w.alloc (Obj.cells #[Value.slice none 0 0] 32)).alloc (Obj.cells #[Value.slice none 0 0] 32)) (w.heap.size + 1) none [] := (by have h := pen_new (w.alloc (Obj.cells #[Value.slice none 0 0] 32)); rw [World.size_alloc] at h; exact h)
          have hsz : ((w.alloc (Obj.cells #[Value.slice none 0 0] 32)).alloc (Obj.cells #[Value.slice none 0 0] 32)).heap.size = w.heap.size + 2 := by simp
          generalize ((w.alloc (Obj.cells #[Value.slice none 0 0] 32)).alloc (Obj.cells #[Value.slice none 0 0] 32)) = W at *
          obtain ⟨g1', hi', hg1'⟩ := HI.out.place HG1.out (w.heap.size + 1)
          obtain ⟨g2', ht', hg2'⟩ := HT.out.place HG2.out (w.heap.size + 1)
          obtain ⟨g3', hl', hg3'⟩ := HL.out.place HG3.out (w.heap.size + 1)
          refine (int_any W w.heap.size none [] g1' a1 c1 ns hp (hi'.keep hK0 (fun h => h)) (notPen2 hg1' (fun _ h => by cases h)) (by simp; omega)).mono ?_
          rintro e w3 ⟨rfl, r1, hp3, hs3⟩
          have HP3 := Lib.hid hp3
          have HR1 := Lib.hid (hs3.from (B := w.heap.size + 2) (by omega) (fun _ h => by cases h))
          have HQ3 := Lib.hid (hq.beside hs3 (by omega) (by simp) (by simp) (fun _ h => by cases h))
          have HT3 := Lib.hid ((ht'.keep hK0 (fun h => h)).keep hs3.keeps (notPen2 hg2' (fun _ h => by cases h)))
          have HL3 := Lib.hid ((hl'.keep hK0 (fun h => h)).keep hs3.keeps (notPen2 hg3' (fun _ h => by cases h)))
          have HS3 : Hid (Below w.heap.size w w3) := (noneB hK0 (Nat.le_refl _)).trans (hs3.below (by omega) (Nat.le_refl _) (fun _ h => by cases h))
          have HZ3 : Hid (w.heap.size + 2 ≤ w3.heap.size) := by have := hs3.keeps.size; show _ ≤ _; omega
          clear hp hq hp3 hs3 hK0 hsz hi' ht' hl'
          go_wp2_with fail
          refine (text_any w3 w.heap.size r1 _ g2' a2 c2 ss HP3.out HT3.out (notPen2 hg2' HR1.out) (fun j s hj => by have := szL_mem ss hj; omega) (by omega) (by rw [List.nil_append, flat_length i8 8 i8_length, txSum_sz]; omega)).mono ?_
          rintro e w4 ⟨rfl, r2, hp4, hs4⟩
          have HP4 := Lib.hid hp4
          have HR2 := Lib.hid (hs4.from (B := w.heap.size + 2) HZ3.out HR1.out)
          have HQ4 := Lib.hid (HQ3.out.beside hs4 (by omega) (by simp) (fun h => by have := HR1.out _ h; omega) (fun _ h => by cases h))
          have HL4 := Lib.hid (HL3.out.keep hs4.keeps (notPen2 hg3' HR1.out))
          have HS4 : Hid (Below w.heap.size w w4) := HS3.out.trans (hs4.below HS3.out.size (Nat.le_refl _) (fun k h => by have := HR1.out k h; omega))
          have HZ4 : Hid (w.heap.size + 2 ≤ w4.heap.size) := by have := hs4.keeps.size; have := HZ3.out; show _ ≤ _; omega
          clear hp4 hs4
          go_wp2_with fail
          refine (stamp_any w4 w.heap.size r2 _ g3' a3 c3 l HP4.out HL4.out (notPen2 hg3' HR2.out) (by rw [List.nil_append, List.length_append, flat_length i8 8 i8_length, tx_sum, txSum_sz]; omega)).mono ?_
          rintro e w5 ⟨rfl, r3, hp5, hs5⟩
          have HP5 := Lib.hid hp5
          have HR3 := Lib.hid (hs5.from (B := w.heap.size + 2) HZ4.out HR2.out)
          have HQ5 := Lib.hid (HQ4.out.beside hs5 (by omega) (by simp) (fun h => by have := HR2.out _ h; omega) (fun _ h => by cases h))
          have HS5 : Hid (Below w.heap.size w w5) := HS4.out.trans (hs5.below HS4.out.size (Nat.le_refl _) (fun k h => by have := HR2.out k h; omega))
          have HZ5 : Hid (w.heap.size + 2 ≤ w5.heap.size) := by have := hs5.keeps.size; have := HZ4.out; show _ ≤ _; omega
          clear hp5 hs5 hg1' hg2' hg3'
          have HBW : Hid (∀ rq wr, PenStep (w.heap.size + 1) none rq w5 wr → Below w.heap.size w wr) := fun rq wr h => HS5.out.trans (h.below HS5.out.size (by omega) (fun _ h => by cases h))
          go_wp2_with fail
          go_loopw [11] (fun i wr => ∃ j : Nat, j ≤ ns.length ∧ i = .int .i64 j ∧ ∃ rq, PenAt wr (w.heap.size + 1) rq ([] ++ (ns.take j).flatMap i8) ∧ PenStep (w.heap.size + 1) none rq w5 wr) (fun i _ => ns.length - (intOf i).toNat)
          case atStart => exact ⟨0, Nat.zero_le _, rfl, none, HQ5.out, PenStep.refl _ _ _⟩
          case round =>
            obtain ⟨j, hj, rfl, rq, hpq, hst⟩ := hrel
            have HPQ := Lib.hid hpq
            have HST := Lib.hid hst
            have HB := Lib.hid (HBW.out rq wr hst)
            clear hpq hst
            by_cases hlt : j < ns.length
            · obtain ⟨x, hx⟩ := get_lt hlt
              have hgw := HG1.out (not_nil hlt)
              obtain ⟨o, rfl, hc⟩ := HI.out (not_nil hlt)
              have cx := (HB.out.cell (p := ⟨g1, o + j, none⟩) hgw).trans (hc j x hx)
              have HLE : Hid ([] ++ (ns.take j).flatMap i8 ++ [x].flatMap i8 = [] ++ (ns.take (j + 1)).flatMap i8) := by show _ = _; rw [take_flat i8 ns hx, List.append_assoc]; simp
              have HN : Hid (([] ++ (ns.take j).flatMap i8).length + 8 * [x].length ≤ 1099511627776) := by
                show _ ≤ _
                rw [List.nil_append, flat_length i8 8 i8_length, List.length_take]
                simp only [List.length_cons, List.length_nil]
                omega
              have HN2 : Hid (([] ++ (ns.take (j + 1)).flatMap i8).length ≤ 1099511627776) := by
                show _ ≤ _
                rw [List.nil_append, flat_length i8 8 i8_length, List.length_take]
                omega
              clear hc hx
              go_wp2_with (first | (go_at_call 15; refine (int_any _ (w.heap.size + 1) rq _ wr.heap.size _ 1 [x] (HPQ.out.before (Keeps.alloc _ _ _)) (one_new wr x _ rfl _ rfl) (HPQ.out.apart (Nat.le_refl _)) HN.out).mono ?_; rintro e w6 ⟨rfl, r6, hp6, hs6⟩; rw [HLE.out] at hp6; have HP6 := Lib.hid hp6; have HS6 := Lib.hid (HST.out.trans (hs6.before (w := wr) (Keeps.alloc _ _ _))); clear hp6 hs6) | (go_at_call 19; refine (bytes_any w6 (w.heap.size + 1) r6 _ HP6.out HN2.out).mono ?_; rintro e w7 ⟨v7, k7, rfl, _, _, hb7⟩; have HP7 := Lib.hid (HP6.out.keep (ofB (S := fun _ => False) hb7) (fun h => h) (fun _ _ h => h)); have HS7 := Lib.hid (HS6.out.after hb7); clear hb7))
              go_roundw
              case rel => exact ⟨j + 1, hlt, by go_num, r6, HP7.out, HS7.out⟩
              case measure => simp [intOf]; omega
            · obtain rfl : j = ns.length := by omega
              have HTN : Hid (ns.take ns.length = ns) := List.take_length
              rw [HTN.out] at HPQ
              go_wp2_with fail
              go_loopw [12] (fun i wr => ∃ j : Nat, j ≤ ss.length ∧ i = .int .i64 j ∧ ∃ rq, PenAt wr (w.heap.size + 1) rq ([] ++ ns.flatMap i8 ++ (ss.take j).flatMap tx) ∧ PenStep (w.heap.size + 1) none rq w5 wr) (fun i _ => ss.length - (intOf i).toNat)
              case atStart => exact ⟨0, Nat.zero_le _, rfl, rq, by simpa using HPQ.out, HST.out⟩
              case round =>
                obtain ⟨j, hj, rfl, rq3, hpq, hst⟩ := hrel
                have HPQ3 := Lib.hid hpq
                have HST3 := Lib.hid hst
                have HB := Lib.hid (HBW.out rq3 wr hst)
                clear hpq hst
                by_cases hlt : j < ss.length
                · obtain ⟨x, hx⟩ := get_lt hlt
                  have hgw := HG2.out (not_nil hlt)
                  obtain ⟨o, rfl, hc⟩ := HT.out (not_nil hlt)
                  have cx := (HB.out.cell (p := ⟨g2, o + j, none⟩) hgw).trans (hc j x hx)
                  have hxs := szL_mem ss hx
                  have hst' := txSum_take ss j x hx
                  have htot := txSum_sz ss
                  have HLE : Hid ([] ++ ns.flatMap i8 ++ (ss.take j).flatMap tx ++ [x].flatMap tx = [] ++ ns.flatMap i8 ++ (ss.take (j + 1)).flatMap tx) := by show _ = _; rw [take_flat tx ss hx]; simp
                  have HN : Hid (([] ++ ns.flatMap i8 ++ (ss.take j).flatMap tx).length + txSum [x] + 8 ≤ 1099511627776) := by
                    show _ ≤ _
                    rw [List.nil_append, List.length_append, flat_length i8 8 i8_length, tx_sum]
                    simp only [txSum]
                    omega
                  have HX : Hid (∀ (i : Nat) (s : ByteArray), [x][i]? = some s → s.size ≤ 1048576) := by
                    intro i s hi
                    match i, hi with
                    | 0, hi => simp at hi; subst hi; omega
                  clear hc hx hst' htot hxs
                  go_wp2_with (go_at_call 16; refine (text_any _ (w.heap.size + 1) rq3 _ wr.heap.size _ 1 [x] (HPQ3.out.before (Keeps.alloc _ _ _)) (text_new wr x _ rfl _ rfl) (HPQ3.out.apart (Nat.le_refl _)) HX.out (by simp) HN.out).mono ?_; rintro e w6 ⟨rfl, r6, hp6, hs6⟩; rw [HLE.out] at hp6; have HP6 := Lib.hid hp6; have HS6 := Lib.hid (HST3.out.trans (hs6.before (w := wr) (Keeps.alloc _ _ _))); clear hp6 hs6)
                  go_roundw
                  case rel => exact ⟨j + 1, hlt, by go_num, r6, HP6.out, HS6.out⟩
                  case measure => simp [intOf]; omega
                · obtain rfl : j = ss.length := by omega
                  rw [HTK.out] at HPQ3
                  go_wp2_with fail
                  go_loopw [13] (fun i wr => ∃ j : Nat, j ≤ l.length ∧ i = .int .i64 j ∧ ∃ rq, PenAt wr (w.heap.size + 1) rq ([] ++ ns.flatMap i8 ++ ss.flatMap tx ++ (l.take j).flatMap st) ∧ PenStep (w.heap.size + 1) none rq w5 wr) (fun i _ => l.length - (intOf i).toNat)
                  case atStart => exact ⟨0, Nat.zero_le _, rfl, rq3, by simpa using HPQ3.out, HST3.out⟩
                  case round =>
                    obtain ⟨j, hj, rfl, rq4, hpq, hst⟩ := hrel
                    have HPQ4 := Lib.hid hpq
                    have HST4 := Lib.hid hst
                    have HB := Lib.hid (HBW.out rq4 wr hst)
                    clear hpq hst
                    have htot : Hid (txSum ss = 4 * ss.length + szL ss) := txSum_sz ss
                    by_cases hlt : j < l.length
                    · obtain ⟨⟨x, y⟩, hx⟩ := get_lt hlt
                      have hgw := HG3.out (not_nil hlt)
                      obtain ⟨o, rfl, hc⟩ := HL.out (not_nil hlt)
                      have cx := (HB.out.cell (p := ⟨g3, o + j * 2, none⟩) hgw).trans (hc j x y hx).1
                      have cy := (HB.out.cell (p := ⟨g3, o + j * 2 + 1, none⟩) hgw).trans (hc j x y hx).2
                      have HLE : Hid ([] ++ ns.flatMap i8 ++ ss.flatMap tx ++ (l.take j).flatMap st ++ [(x, y)].flatMap st = [] ++ ns.flatMap i8 ++ ss.flatMap tx ++ (l.take (j + 1)).flatMap st) := by show _ = _; rw [take_flat st l hx]; simp
                      have HN : Hid (([] ++ ns.flatMap i8 ++ ss.flatMap tx ++ (l.take j).flatMap st).length + 16 * [(x, y)].length ≤ 1099511627776) := by
                        show _ ≤ _
                        rw [List.nil_append, List.length_append, List.length_append, flat_length i8 8 i8_length, tx_sum, flat_length st 16 st_length, List.length_take, htot.out]
                        simp only [List.length_cons, List.length_nil]
                        omega
                      clear hc hx
                      go_wp2_with (go_at_call 40; refine (stamp_any _ (w.heap.size + 1) rq4 _ wr.heap.size _ 1 [(x, y)] (HPQ4.out.before (Keeps.alloc _ _ _)) (stamp_new' wr x y _ rfl _ rfl) (HPQ4.out.apart (Nat.le_refl _)) HN.out).mono ?_; rintro e w6 ⟨rfl, r6, hp6, hs6⟩; rw [HLE.out] at hp6; have HP6 := Lib.hid hp6; have HS6 := Lib.hid (HST4.out.trans (hs6.before (w := wr) (Keeps.alloc _ _ _))); clear hp6 hs6)
                      go_roundw
                      case rel => exact ⟨j + 1, hlt, by go_num, r6, HP6.out, HS6.out⟩
                      case measure => simp [intOf]; omega
                    · obtain rfl : j = l.length := by omega
                      have HTL : Hid (l.take l.length = l) := List.take_length
                      rw [HTL.out] at HPQ4
                      have HLN : Hid (([] ++ ns.flatMap i8 ++ ss.flatMap tx ++ l.flatMap st).length ≤ 1099511627776) := by
                        show _ ≤ _
                        rw [List.nil_append, List.length_append, List.length_append, flat_length i8 8 i8_length, tx_sum, flat_length st 16 st_length, htot.out]
                        omega
                      have HPP := Lib.hid (HP5.out.beside HST4.out (by omega) (fun h => by have := HR3.out _ h; omega) (by simp) (fun _ _ h => by cases h))
                      generalize [] ++ ns.flatMap i8 ++ ss.flatMap tx ++ l.flatMap st = L at *
                      have HPX := Lib.hid fun (W : World) (h : Below wr.heap.size wr W) => HPP.out.keep (ofB (S := fun _ => False) h) (fun h => h) (fun _ _ h => h)
                      have HQX := Lib.hid fun (W : World) (h : Below wr.heap.size wr W) => HPQ4.out.keep (ofB (S := fun _ => False) h) (fun h => h) (fun _ _ h => h)
                      have HC : Hid (Below wr.heap.size wr wr.drew) := (Below.refl _ _).drew
                      have tok1 : True := trivial
                      have tok2 : True := trivial
                      have tok3 : True := trivial
                      have tok4 : True := trivial
                      go_wp2_with fail
                      go_region_with (first | (go_at_call 19; have _t := tok1; clear _t tok1; refine (bytes_any _ w.heap.size r3 L (HPX.out _ HC.out) HLN.out).mono ?_; rintro e x1 ⟨v1, k1, rfl, hr, _, hb⟩; have HC := Lib.hid (HC.out.trans (hb.mono HC.out.size)); have HB1 := Lib.hid hr.bs; have hs1 := HB1.out.str; clear hr hb) | (go_at_call 19; have _t := tok2; clear _t tok2; refine (bytes_any _ (w.heap.size + 1) rq4 L (HQX.out _ HC.out) HLN.out).mono ?_; rintro e x2 ⟨v2, k2, rfl, hr, _, hb⟩; have HC := Lib.hid (HC.out.trans (hb.mono HC.out.size)); have HB1 := Lib.hid (HB1.out.keep (ofB (S := fun _ => False) hb) (fun _ h => h)); have hs1 := HB1.out.str; have HB2 := Lib.hid hr.bs; have hs2 := HB2.out.str; clear hr hb) | (go_at_call 19; have _t := tok3; clear _t tok3; refine (bytes_any _ w.heap.size r3 L (HPX.out _ HC.out) HLN.out).mono ?_; rintro e x3 ⟨v3, k3, rfl, hr, _, hb⟩; have HC := Lib.hid (HC.out.trans (hb.mono HC.out.size)); have HB1 := Lib.hid (HB1.out.keep (ofB (S := fun _ => False) hb) (fun _ h => h)); have hs1 := HB1.out.str; have HB2 := Lib.hid (HB2.out.keep (ofB (S := fun _ => False) hb) (fun _ h => h)); have hs2 := HB2.out.str; have HB3 := Lib.hid hr.bs; have hs3 := HB3.out.str; clear hr hb) | (go_at_call 19; have _t := tok4; clear _t tok4; refine (bytes_any _ w.heap.size r3 L (HPX.out _ HC.out) HLN.out).mono ?_; rintro e x4 ⟨v4, k4, rfl, hr, _, hb⟩; have HC := Lib.hid (HC.out.trans (hb.mono HC.out.size)); have HB1 := Lib.hid (HB1.out.keep (ofB (S := fun _ => False) hb) (fun _ h => h)); have hs1 := HB1.out.str; have HB2 := Lib.hid (HB2.out.keep (ofB (S := fun _ => False) hb) (fun _ h => h)); have hs2 := HB2.out.str; have HB3 := Lib.hid (HB3.out.keep (ofB (S := fun _ => False) hb) (fun _ h => h)); have hs3 := HB3.out.str; have HB4 := Lib.hid hr.bs; have hs4 := HB4.out.str; clear hr hb) | (go_at_call 13; refine (live_any _).mono ?_; rintro e x5 ⟨rfl, hb⟩; have HC := Lib.hid (HC.out.trans (hb.mono HC.out.size)); clear hb))
                      all_goals
                        go_wp2
                        go_ret
                        exact ⟨rfl, HB.out.trans (HC.out.mono HB.out.size)⟩

end Go.Proofs.Ytjojjpfjennnoaa
