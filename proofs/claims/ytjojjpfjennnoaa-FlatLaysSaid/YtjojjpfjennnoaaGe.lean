/- FlatLays: everything is laid as the document says: whatever things, numbers and texts, the law returns true and leaves its arguments as they were. Conditions: none. -/
import Derived.Test.YtjojjpfjennnoaaGd
namespace Go.Proofs.Ytjojjpfjennnoaa
open Go.ChangeShapes Go.WideShapes Go.ChangeAt Go.RowKit Go.Joins Go.Deep

theorem Ths.later {w x : World} {g : Nat} {a : Option Addr} {l : List Th} (h : Ths w g a l) (hb : Below w.heap.size w x) : Ths x g a l := by
  intro hne
  obtain ⟨hg, o, ha, hall⟩ := h hne
  exact ⟨Nat.lt_of_lt_of_le hg hb.size, o, ha, fun j y hy => let ⟨h1, h2, h3, h4⟩ := hall j y hy; ⟨h1.later hb hg, h2, h3.later h4 hb, fun hn => Nat.lt_of_lt_of_le (h4 hn) hb.size⟩⟩
theorem TL.later {w x : World} {g : Nat} {a : Option Addr} {l : List ByteArray} (h : TL w g a l) (hg : l ≠ [] → g < w.heap.size) (hb : Below w.heap.size w x) : TL x g a l := by
  intro hne
  exact h.keep (ofB (S := fun k => w.heap.size ≤ k) hb) (fun e => by have := hg hne; omega) hne
theorem IL.later {w x : World} {g : Nat} {a : Option Addr} {l : List Int} (h : IL w g a l) (hg : l ≠ [] → g < w.heap.size) (hb : Below w.heap.size w x) : IL x g a l := by
  intro hne
  exact h.keep (ofB (S := fun k => w.heap.size ≤ k) hb) (fun e => by have := hg hne; omega) hne
theorem notPenB {B b g : Nat} {r : Option Nat} (hg : g < B) (hb : B ≤ b) (hr : ∀ k, r = some k → B ≤ k) : ¬ PenS b r g := by
  rintro (e | e)
  · omega
  · have := hr g e; omega

set_option maxRecDepth 100000 in
set_option maxHeartbeats 4000000 in
theorem flatLays_big (g0 : Nat) (a0 : Option Addr) (c0 : Nat) (l : List Th) (a1 : Option Addr) (c1 : Nat) (ns : List Int) (a2 : Option Addr) (c2 : Nat) (ss : List ByteArray) (w : World) (hm0 : l.length ≤ maxLen) (hm1 : ns.length ≤ maxLen) (hm2 : ss.length ≤ maxLen) (hl : Ths w g0 a0 l)
    (h : smallT l = false ∨ 60 < ns.length ∨ 60 < ss.length) :
    Calls Try.prog 3 #[.slice a0 l.length c0, .slice a1 ns.length c1, .slice a2 ss.length c2] w fun e w' => e = .returned (.bool true) ∧ Below w.heap.size w w' := by
  have HL := Lib.hid hl
  clear hl
  have hm0' := hm0
  unfold maxLen at hm0' hm1 hm2
  cases hs : smallT l
  · have HSM := Lib.hid hs
    clear h hs
    go_enter Try.func3, Try.ntmps3
    go_wp2_with (first | (go_at_call 12; refine (small_any _ g0 _ c0 l hm0 HL.out).mono ?_; rintro e w1 ⟨rfl, hb1⟩; rw [HSM.out]; have HB1 := Lib.hid hb1; clear hb1) | (go_at_call 13; refine (live_any _).mono ?_; rintro e w9 ⟨rfl, hb1⟩; have HB9 := Lib.hid hb1; clear hb1))
    go_ret
    exact ⟨rfl, bThen' HB1.out HB9.out⟩
  · have HSM := Lib.hid hs
    rw [hs] at h
    clear hs
    by_cases h1 : 60 < ns.length
    · go_enter Try.func3, Try.ntmps3
      go_wp2_with (first | (go_at_call 12; refine (small_any _ g0 _ c0 l hm0 HL.out).mono ?_; rintro e w1 ⟨rfl, hb1⟩; rw [HSM.out]; have HB1 := Lib.hid hb1; clear hb1) | (go_at_call 13; refine (live_any _).mono ?_; rintro e w9 ⟨rfl, hb1⟩; have HB9 := Lib.hid hb1; clear hb1))
      go_ret
      exact ⟨rfl, bThen' HB1.out HB9.out⟩
    · have h2 : 60 < ss.length := by
        rcases h with h | h | h
        · cases h
        · omega
        · exact h
      clear h
      go_enter Try.func3, Try.ntmps3
      go_wp2_with (first | (go_at_call 12; refine (small_any _ g0 _ c0 l hm0 HL.out).mono ?_; rintro e w1 ⟨rfl, hb1⟩; rw [HSM.out]; have HB1 := Lib.hid hb1; clear hb1) | (go_at_call 13; refine (live_any _).mono ?_; rintro e w9 ⟨rfl, hb1⟩; have HB9 := Lib.hid hb1; clear hb1))
      go_ret
      exact ⟨rfl, bThen' HB1.out HB9.out⟩

set_option maxRecDepth 100000 in
set_option maxHeartbeats 8000000 in
theorem flatLays_walk (g0 : Nat) (a0 : Option Addr) (c0 : Nat) (l : List Th) (a1 : Option Addr) (c1 g1 : Nat) (ns : List Int) (a2 : Option Addr) (c2 g2 : Nat) (ss : List ByteArray) (w : World) (hm0 : l.length ≤ maxLen) (hm1 : ns.length ≤ maxLen) (hm2 : ss.length ≤ maxLen) (hl : Ths w g0 a0 l)
    (hi : IL w g1 a1 ns) (hg1 : ns ≠ [] → g1 < w.heap.size) (ht : TL w g2 a2 ss) (hg2 : ss ≠ [] → g2 < w.heap.size) (hz : ∀ (j : Nat) (s : ByteArray), ss[j]? = some s → s.size ≤ 140737488355328) :
    Calls Try.prog 3 #[.slice a0 l.length c0, .slice a1 ns.length c1, .slice a2 ss.length c2] w fun e w' => e = .returned (.bool true) ∧ Below w.heap.size w w' := by
  by_cases hbig : smallT l = false ∨ 60 < ns.length ∨ 60 < ss.length
  · exact flatLays_big g0 a0 c0 l a1 c1 ns a2 c2 ss w hm0 hm1 hm2 hl hbig
  · have hsm : smallT l = true := by cases h : smallT l; exact absurd (.inl h) hbig; rfl
    have h1 : ns.length ≤ 60 := by omega
    have h2 : ss.length ≤ 60 := by omega
    have hsd : l.length ≤ 60 ∧ wsum l ≤ 20000 := by unfold smallT at hsm; simpa using hsm
    obtain ⟨hl60, hl20⟩ := hsd
    have hd1 : decide ((60 : Int) < (ns.length : Int)) = false := by simp; omega
    have hd2 : decide ((60 : Int) < (ss.length : Int)) = false := by simp; omega
    have hzz : szL ss ≤ 140737488355328 * ss.length := szL_le ss _ hz
    have HSM := Lib.hid hsm
    have HL := Lib.hid hl
    have HI := Lib.hid hi
    have HT := Lib.hid ht
    have HG1 := Lib.hid hg1
    have HG2 := Lib.hid hg2
    have HZ := Lib.hid hz
    clear hbig hm1 hm2 hl hi ht hg1 hg2 hz hsm
    go_enter Try.func3, Try.ntmps3
    go_wp2_with (go_at_call 12; refine (small_any _ g0 _ c0 l hm0 HL.out).mono ?_; rintro e w1 ⟨rfl, hb1⟩; rw [HSM.out]; have HB1 := Lib.hid hb1; clear hb1)
    go_loop [7, 8] (fun n i => ∃ j : Nat, j ≤ ss.length ∧ i = .int .i64 j ∧ n = .int .i64 (szL (ss.take j))) (fun _ i => ss.length - (intOf i).toNat)
    case atStart => exact ⟨0, Nat.zero_le _, rfl, rfl⟩
    case round =>
      obtain ⟨j, hj, rfl, rfl⟩ := hrel
      by_cases hlt : j < ss.length
      · obtain ⟨s, hs⟩ := get_lt hlt
        have hgw := HG2.out (not_nil hlt)
        obtain ⟨o, rfl, hc⟩ := HT.out (not_nil hlt)
        have cx := (HB1.out.cell (p := ⟨g2, o + j, none⟩) hgw).trans (hc j s hs)
        have hsz := szL_take ss hs
        have hle : szL (ss.take (j + 1)) ≤ 140737488355328 * (j + 1) := by
          have h := szL_le (ss.take (j + 1)) 140737488355328 (fun i s hi => HZ.out i s (by
            have hil := (List.getElem?_eq_some_iff.1 hi).1
            rw [List.length_take] at hil
            rwa [List.getElem?_take_of_lt (by omega)] at hi))
          rw [List.length_take] at h
          have : min (j + 1) ss.length = j + 1 := by omega
          rwa [this] at h
        have hb : szL (ss.take j) + s.size ≤ 10000000000000000 := by omega
        have HSZ := Lib.hid hsz
        clear hc hs hsz hle
        go_wp2_with fail
        go_round
        case rel => exact ⟨j + 1, hlt, by go_num, by rw [HSZ.out]; go_num⟩
        case measure => simp [intOf]; omega
      · obtain rfl : j = ss.length := by omega
        have HTK : Hid (ss.take ss.length = ss) := List.take_length
        rw [HTK.out]
        by_cases hbig : 20000 < szL ss
        · go_wp2_with (go_at_call 13; refine (live_any _).mono ?_; rintro e w9 ⟨rfl, hb1⟩; have HB9 := Lib.hid hb1; clear hb1)
          go_ret
          exact ⟨rfl, bThen' HB1.out HB9.out⟩
        · have hsmall : szL ss ≤ 20000 := by omega
          clear hbig hzz
          go_wp2_with fail
          refine (lay_any w1 g0 a0 c0 l hl60 hl20 (HL.out.later HB1.out)).mono ?_
          rintro e w2 ⟨va, ga, vb, gb, rfl, hra, hrb, hna, hnb, hb2⟩
          obtain ⟨aa, na, ca, rfl⟩ := hra.form
          obtain ⟨ab, nb, cb, rfl⟩ := hrb.form
          have HRA := Lib.hid hra
          have HRB := Lib.hid hrb
          have HB2 : Hid (Below w.heap.size w w2) := bThen' HB1.out hb2
          clear hra hrb hna hnb hb2
          generalize l.flatMap layB = LL at HRA HRB
          go_wp2_with fail
          have hp := pen_new w2
          have hBp : Below w.heap.size w (w2.alloc (Obj.cells #[Value.slice none 0 0] 32)) := HB2.out.alloc HB2.out.size _
          have hKp : Keeps (fun k => w2.heap.size ≤ k) w2 (w2.alloc (Obj.cells #[Value.slice none 0 0] 32)) := Keeps.alloc _ _ _
          generalize w2.alloc (Obj.cells #[Value.slice none 0 0] 32) = W at *
          have hplace : ∃ g1', IL W g1' a1 ns ∧ ¬ PenS w2.heap.size none g1' := by
            by_cases hne : ns = []
            · subst hne; exact ⟨w2.heap.size + 1, fun h => absurd rfl h, fun h => by rcases h with h | h; omega; cases h⟩
            · exact ⟨g1, HI.out.later HG1.out hBp, fun h => by have := HG1.out hne; have := HB2.out.size; rcases h with h | h; omega; cases h⟩
          obtain ⟨g1', hi', hn1'⟩ := hplace
          refine (int_any W w2.heap.size none [] g1' a1 c1 ns hp hi' hn1' (by simp; omega)).mono ?_
          rintro e w3 ⟨rfl, r1, hp3, hs3⟩
          have HP3 := Lib.hid hp3
          have HR1 := Lib.hid (hs3.from (B := w2.heap.size) hKp.size (fun _ h => by cases h))
          have HK3 : Hid (Keeps (fun k => w2.heap.size ≤ k) w2 w3) := hKp.then (hs3.keeps.mono fun k _ h => by rcases h with h | h; exact Nat.le_of_eq h.symm; cases h)
          have HB3 : Hid (Below w.heap.size w w3) := hBp.trans (hs3.below hBp.size HB2.out.size (fun _ h => by cases h))
          clear hp hp3 hs3 hi' hn1' hBp hKp
          go_wp2_with fail
          have hplace2 : ∃ g2', TL w3 g2' a2 ss ∧ ¬ PenS w2.heap.size r1 g2' := by
            by_cases hne : ss = []
            · subst hne; exact ⟨w3.heap.size, fun h => absurd rfl h, HP3.out.apart (Nat.le_refl _)⟩
            · exact ⟨g2, HT.out.later HG2.out HB3.out, notPenB (B := w2.heap.size) (by have := HG2.out hne; have := HB2.out.size; omega) (Nat.le_refl _) HR1.out⟩
          obtain ⟨g2', ht', hn2'⟩ := hplace2
          refine (text_any w3 w2.heap.size r1 _ g2' a2 c2 ss HP3.out ht' hn2' (fun j s hj => by have := szL_mem ss hj; omega) (by omega) (by rw [List.nil_append, flat_length i8 8 i8_length, txSum_sz]; omega)).mono ?_
          rintro e w4 ⟨rfl, r2, hp4, hs4⟩
          rw [List.nil_append] at hp4
          have HP4 := Lib.hid hp4
          have HK4 : Hid (Keeps (fun k => w2.heap.size ≤ k) w2 w4) := HK3.out.then (hs4.keeps.mono fun k _ h => by rcases h with h | h; exact Nat.le_of_eq h.symm; exact HR1.out k h)
          have HB4 : Hid (Below w.heap.size w w4) := HB3.out.trans (hs4.below HB3.out.size HB2.out.size (fun k h => by have := HR1.out k h; have := HB2.out.size; omega))
          clear hp4 hs4 ht' hn2'
          have HBW : Hid (∀ rb wr, RowStep none rb w4 wr → Below w.heap.size w wr) := fun rb wr h => HB4.out.trans (h.below HB4.out.size (fun _ h => by cases h))
          go_wp2_with fail
          go_loopw [12, 13] (fun v i wr => ∃ j : Nat, j ≤ ns.length ∧ i = .int .i64 j ∧ ∃ rb, Row wr rb v ((ns.take j).flatMap i8) ∧ RowStep none rb w4 wr) (fun _ i _ => ns.length - (intOf i).toNat)
          case atStart => exact ⟨0, Nat.zero_le _, rfl, none, Row.nil _, RowStep.refl _ _⟩
          case round =>
            obtain ⟨j, hj, rfl, rb, hrw, hst⟩ := hrel
            obtain ⟨av, nv, cv, rfl⟩ := hrw.form
            have HRW := Lib.hid hrw
            have HST := Lib.hid hst
            have HB := Lib.hid (HBW.out rb wr hst)
            clear hrw hst
            by_cases hlt : j < ns.length
            · obtain ⟨x, hx⟩ := get_lt hlt
              have hgw := HG1.out (not_nil hlt)
              obtain ⟨o, rfl, hc⟩ := HI.out (not_nil hlt)
              have cx := (HB.out.cell (p := ⟨g1, o + j, none⟩) hgw).trans (hc j x hx)
              have HLE : Hid ((ns.take j).flatMap i8 ++ i8 x = (ns.take (j + 1)).flatMap i8) := (take_flat i8 ns hx).symm
              have HN : Hid (((ns.take j).flatMap i8).length + 8 ≤ 1099511627776) := by
                show _ ≤ _
                rw [flat_length i8 8 i8_length, List.length_take]
                omega
              clear hc hx
              go_wp2_with (go_at_call 17; refine (rint_any _ rb _ _ x HRW.out HN.out).mono ?_; rintro e w6 ⟨v6, r6, rfl, h1, h2⟩; rw [HLE.out] at h1; have H1 := Lib.hid h1; have H2 := Lib.hid (HST.out.trans h2); clear h1 h2)
              go_roundw
              case rel => exact ⟨j + 1, hlt, by go_num, r6, H1.out, H2.out⟩
              case measure => simp [intOf]; omega
            · obtain rfl : j = ns.length := by omega
              have HTN : Hid (ns.take ns.length = ns) := List.take_length
              rw [HTN.out] at HRW
              go_wp2_with fail
              go_loopw [12, 14] (fun v i wr => ∃ j : Nat, j ≤ ss.length ∧ i = .int .i64 j ∧ ∃ rb, Row wr rb v (ns.flatMap i8 ++ (ss.take j).flatMap tx) ∧ RowStep none rb w4 wr) (fun _ i _ => ss.length - (intOf i).toNat)
              case atStart => exact ⟨0, Nat.zero_le _, rfl, rb, by simpa using HRW.out, HST.out⟩
              case round =>
                obtain ⟨j, hj, rfl, rb3, hrw, hst⟩ := hrel
                obtain ⟨av3, nv3, cv3, rfl⟩ := hrw.form
                have HRW3 := Lib.hid hrw
                have HST3 := Lib.hid hst
                have HB := Lib.hid (HBW.out rb3 wr hst)
                clear hrw hst
                have htot : Hid (txSum ss = 4 * ss.length + szL ss) := txSum_sz ss
                by_cases hlt : j < ss.length
                · obtain ⟨x, hx⟩ := get_lt hlt
                  have hgw := HG2.out (not_nil hlt)
                  obtain ⟨o, rfl, hc⟩ := HT.out (not_nil hlt)
                  have cx := (HB.out.cell (p := ⟨g2, o + j, none⟩) hgw).trans (hc j x hx)
                  have hxs := szL_mem ss hx
                  have hst' := txSum_take ss j x hx
                  have HLE : Hid (ns.flatMap i8 ++ (ss.take j).flatMap tx ++ tx x = ns.flatMap i8 ++ (ss.take (j + 1)).flatMap tx) := by show _ = _; rw [take_flat tx ss hx]; simp
                  have HX : Hid (x.size ≤ 1048576) := by show _ ≤ _; omega
                  have HN : Hid ((ns.flatMap i8 ++ (ss.take j).flatMap tx).length + x.size + 8 ≤ 1099511627776) := by
                    show _ ≤ _
                    have := htot.out
                    rw [List.length_append, flat_length i8 8 i8_length, tx_sum]
                    omega
                  clear hc hx hst' hxs
                  go_wp2_with (go_at_call 18; refine (rtext_any _ rb3 _ _ x HRW3.out HX.out HN.out).mono ?_; rintro e w6 ⟨v6, r6, rfl, h1, h2⟩; rw [HLE.out] at h1; have H1 := Lib.hid h1; have H2 := Lib.hid (HST3.out.trans h2); clear h1 h2)
                  go_roundw
                  case rel => exact ⟨j + 1, hlt, by go_num, r6, H1.out, H2.out⟩
                  case measure => simp [intOf]; omega
                · obtain rfl : j = ss.length := by omega
                  rw [HTK.out] at HRW3
                  have hlen : (ns.flatMap i8 ++ ss.flatMap tx).length ≤ 1099511627776 := by
                    have := htot.out
                    rw [List.length_append, flat_length i8 8 i8_length, tx_sum]
                    omega
                  have HLN := Lib.hid hlen
                  have HPP := Lib.hid (HP4.out.keep HST3.out.keeps (fun h => by cases h) (fun _ _ h => by cases h))
                  have hkk : Keeps (fun k => w2.heap.size ≤ k) w2 wr := HK4.out.then (HST3.out.keeps.mono fun k _ h => by cases h)
                  have hA := HRA.out.keep hkk (fun k h e => by have := HRA.out.lt h; omega)
                  have hBr := HRB.out.keep hkk (fun k h e => by have := HRB.out.lt h; omega)
                  generalize ns.flatMap i8 ++ ss.flatMap tx = L at *
                  have hdr : Keeps (fun _ => False) wr wr.drew := Keeps.drew _ _
                  have hsa := (hA.before hdr).bs.str
                  have hsb := (hBr.before hdr).bs.str
                  have HWB := Lib.hid (HRW3.out.before hdr).bs
                  have hsw := HWB.out.str
                  have HPX := Lib.hid (HPP.out.before hdr)
                  have HC : Hid (Below wr.heap.size wr wr.drew) := (Below.refl _ _).drew
                  clear hlen hkk hA hBr hdr
                  go_wp2_with fail
                  go_region_with (first | (go_at_call 19; refine (bytes_any _ w2.heap.size r2 L HPX.out HLN.out).mono ?_; rintro e x1 ⟨v1, k1, rfl, hr, _, hb⟩; have HC := Lib.hid (HC.out.trans (hb.mono HC.out.size)); have hs1 := hr.bs.str; have hsw1 := (HWB.out.keep (ofB (S := fun _ => False) hb) (fun _ h => h)).str; clear hr hb) | (go_at_call 13; refine (live_any _).mono ?_; rintro e x5 ⟨rfl, hb⟩; have HC := Lib.hid (HC.out.trans (hb.mono HC.out.size)); clear hb))
                  all_goals
                    go_wp2
                    go_ret
                    exact ⟨rfl, HB.out.trans (HC.out.mono HB.out.size)⟩

end Go.Proofs.Ytjojjpfjennnoaa
