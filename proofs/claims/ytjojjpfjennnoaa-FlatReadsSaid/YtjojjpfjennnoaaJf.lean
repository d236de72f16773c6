/- FlatReads: an eye sees what the document says, whatever the bytes and whatever is asked: the law returns true and leaves its arguments as they were. Conditions: none. -/
import Derived.Test.YtjojjpfjennnoaaJe
namespace Go.Proofs.Ytjojjpfjennnoaa
open Go.ChangeShapes Go.WideShapes Go.ChangeAt Go.RowKit Go.Joins Go.Deep

/-- Bytes that a call owns, whatever they are. -/
def Fl (w : World) (g n : Nat) : Prop := ∃ C t, w.heap[g]? = some (.cells C t (0, 0)) ∧ ∀ j, j < n → ∃ z : Int, C[j]? = some (.int .u8 z)
theorem fl_of {w : World} {g : Nat} {v : Value} {l : List UInt8} (h : Row w (some g) v l) : Fl w g l.length ∧ ∃ c, v = .slice (some ⟨g, 0, none⟩) l.length c ∧ l.length ≤ c ∧ c ≤ 9223372036854775807 := by
  rcases h.1.2 with ⟨hn, _⟩ | ⟨b, cap, cur, rfl, hb, hh, hc, hm, hs, ht⟩
  · have := h.2; rw [hn] at this; cases this
  · have e : b = g := by have := h.2; simpa [Value.ownBlock] using this
    subst e
    refine ⟨⟨cur, _, hh, fun j hj => ?_⟩, cap, rfl, hc, hm⟩
    obtain ⟨x, hx⟩ := get_lt hj
    have h1 : cur.toList.take l.length = bvs l := by simpa using ht
    have h2 := bvs_at hx
    rw [← h1, List.getElem?_take_of_lt hj] at h2
    have h3 : cur[j]? = some (bv x) := by simpa using h2
    exact ⟨_, h3⟩
theorem Fl.cell {w : World} {g n j : Nat} (h : Fl w g n) (hj : j < n) : (∃ z : Int, w.cell? ⟨g, j, none⟩ = some (.int .u8 z)) ∧ w.frozen? ⟨g, j, none⟩ = false := by
  obtain ⟨C, t, hh, hc⟩ := h
  obtain ⟨z, hz⟩ := hc j hj
  exact ⟨⟨z, by rw [cell_of_row _ _ _ _ _ _ hh]; exact hz⟩, frozen_of_row _ _ _ _ _ hh⟩
theorem Fl.set {w : World} {g n : Nat} (h : Fl w g n) (j : Nat) (z : Int) : Fl (w.setCell ⟨g, j, none⟩ (.int .u8 z)) g n := by
  obtain ⟨C, t, hh, hc⟩ := h
  refine ⟨_, t, block_setCell hh _, fun i hi => ?_⟩
  obtain ⟨y, hy⟩ := hc i hi
  by_cases e : j = i
  · subst e
    have hlt : j < C.size := (Array.getElem?_eq_some_iff.1 hy).1
    exact ⟨z, by simp [hlt]⟩
  · exact ⟨y, by rw [Array.getElem?_setIfInBounds_ne e]; exact hy⟩
theorem SL.lt {w : World} {g : Nat} {a : Option Addr} {l : List (Int × Int)} (h : SL w g a l) (hne : l ≠ []) : g < w.heap.size := by
  obtain ⟨o, _, hc⟩ := h hne
  match l, hne, hc with
  | (x, y) :: r, _, hc => exact World.block_lt_of_cell? _ _ (hc 0 x y rfl).1
theorem left_r (w : World) (b g : Nat) (l : List UInt8) (p : Nat) (bl : Bool) (he : EyeAt w b g (l.drop p) bl) (hp : p ≤ l.length) : Calls Try.prog 35 #[.pointer (some ⟨b, 0, none⟩)] w fun e w' => e = .returned (.int .i64 ((l.length : Int) - (p : Int))) ∧ w = w' := by
  have h := left_any w b g _ bl he
  have e : (((l.drop p).length : Nat) : Int) = (l.length : Int) - (p : Int) := by rw [List.length_drop]; omega
  rw [e] at h
  exact h
theorem valL_len (l : List UInt8) (bl : Bool) : (valL l bl).length ≤ l.length := by
  unfold valL
  split
  · next h =>
    rw [rdL_length]
    unfold okL at h
    simp only [Bool.and_eq_true, decide_eq_true_eq] at h
    have := h.2.2.2
    omega
  · simp

set_option maxRecDepth 100000 in
set_option maxHeartbeats 8000000 in
theorem flatReads_walk (g0 : Nat) (v : Value) (l : List UInt8) (a2 : Option Addr) (c2 g3 : Nat) (ks : List Int) (w : World) (hb : Bw w g0 v l) (hm2 : ks.length ≤ maxLen) (hi : IL w g3 a2 ks) (hg2 : ks ≠ [] → g3 < w.heap.size) :
    Calls Try.prog 4 #[v, .slice a2 ks.length c2] w fun e w' => e = .returned (.bool true) ∧ Below w.heap.size w w' := by
  obtain ⟨a1, c1, rfl⟩ := hb.form
  have hmax : l.length ≤ maxLen := by obtain ⟨_, _, _, _, h, _⟩ := hb; exact h
  unfold maxLen at hmax hm2
  by_cases hbig : 20000 < l.length
  · go_enter Try.func4, Try.ntmps4
    go_wp2_with (go_at_call 13; refine (live_any _).mono ?_; rintro e w9 ⟨rfl, hb1⟩; have HB9 := Lib.hid hb1; clear hb1)
    go_ret
    exact ⟨rfl, HB9.out⟩
  · by_cases hbig2 : 60 < ks.length
    · go_enter Try.func4, Try.ntmps4
      go_wp2_with (go_at_call 13; refine (live_any _).mono ?_; rintro e w9 ⟨rfl, hb1⟩; have HB9 := Lib.hid hb1; clear hb1)
      go_ret
      exact ⟨rfl, HB9.out⟩
    · have hl1 : l.length ≤ 20000 := by omega
      have hl2 : ks.length ≤ 60 := by omega
      have hd1 : decide ((20000 : Int) < (l.length : Int)) = false := by simp; omega
      have hd2 : decide ((60 : Int) < (ks.length : Int)) = false := by simp; omega
      have HBW := Lib.hid hb
      have HI := Lib.hid hi
      have HG2 := Lib.hid hg2
      clear hb hi hg2 hbig hbig2
      go_enter Try.func4, Try.ntmps4
      go_wp2_with (at_builtin; refine wpList_app rfl (.tmp 20) (.tmp 21) 27 rfl rfl rfl (row_empty _) (HBW.out.keep (S := fun _ => False) (Keeps.alloc _ _ _) (fun _ h => h)).src (by simp; omega) ?_; intro v1 w1 g1 h1' h2 h3; have h1 : Row w1 g1 v1 l := h1'; clear h1'; obtain ⟨a5, c5, rfl⟩ := h1.len_form _ rfl; have HR1 := Lib.hid h1; have H2 := Lib.hid h2; have H3 := Lib.hid h3; clear h1 h2 h3)
      have HB1 : Hid (Below w.heap.size w w1) := ((Below.refl _ _).alloc (Nat.le_refl _) _).grown H2.out (by simp) (fun k hk => by cases hk; exact Nat.le_refl _)
      have HN1 : Hid (∀ k, g1 = some k → w.heap.size ≤ k) := by
        rcases H3.out with e | e
        · rw [e]; intro k hk; cases hk; exact Nat.le_refl _
        · exact e.later (Keeps.alloc (fun _ => False) _ _)
      have HL1 : Hid (∀ k, g1 = some k → k < w1.heap.size) := fun k hk => HR1.out.lt hk
      clear H2 H3
      refine (open_any w1 (g1.getD 0) _ l HR1.out.bs (by omega)).mono ?_
      rintro e w2 ⟨b, g, rfl, he, hbb, hgg, hbel⟩
      have HB2 : Hid (Below w.heap.size w w2) := HB1.out.trans (hbel.mono HB1.out.size)
      have HE2 := Lib.hid he
      have hr2 := HR1.out.before (ofB (S := fun _ => False) hbel)
      have hs12 := hbel.size
      clear he hbel
      go_wp2_with fail
      refine (rOpen_w w2 g0 _ l (HBW.out.keep (ofB (S := fun _ => False) HB2.out) (fun _ h => h)) hl1).mono ?_
      rintro e w3 ⟨b2, g2, rfl, hr, hbb2, hgg2, hbel2⟩
      have HB3 : Hid (Below w.heap.size w w3) := HB2.out.trans (hbel2.mono HB2.out.size)
      have HE3 := Lib.hid (HE2.out.before (ofB (S := fun _ => False) hbel2))
      have HR3 := Lib.hid hr
      have HW3 := Lib.hid (HBW.out.keep (ofB (S := fun _ => False) HB3.out) (fun _ h => h))
      have HF3 : Hid (∀ k, g1 = some k → Fl w3 k l.length ∧ a5 = some ⟨k, 0, none⟩ ∧ l.length ≤ c5 ∧ c5 ≤ 9223372036854775807) := by
        intro k hk
        subst hk
        obtain ⟨f1, c, hv, f2, f3⟩ := fl_of (hr2.before (ofB (S := fun _ => False) hbel2))
        simp only [Value.slice.injEq, true_and] at hv
        obtain ⟨rfl, rfl⟩ := hv
        exact ⟨f1, rfl, f2, f3⟩
      have HS3 : Hid (l ≠ [] → ∃ k, g1 = some k) := fun hne => HR1.out.some_of hne
      have hbl := HE2.out.lt
      have HNB : Hid (¬ Only b2 b) := fun h => by have e : b = b2 := h; omega
      have HNB2 : Hid (¬ Only b b2) := fun h => by have e : b2 = b := h; omega
      have HNG : Hid (l ≠ [] → ¬ Only b2 g) := fun hne h => by have e : g = b2 := h; have := HE2.out.lt2 hne; omega
      have HNG2 : Hid (l ≠ [] → ¬ Only b g2) := fun hne h => by have e : g2 = b := h; have := hgg2 hne; omega
      have HQ1 : Hid (¬ g1 = some b) := fun h => by have := HL1.out _ h; omega
      have HQ2 : Hid (¬ g1 = some b2) := fun h => by have := HL1.out _ h; omega
      have HQ3 : Hid (l ≠ [] → ¬ g1 = some g) := fun hne h => by have := HL1.out _ h; have := hgg hne; omega
      have HQ4 : Hid (l ≠ [] → ¬ g1 = some g2) := fun hne h => by have := HL1.out _ h; have := hgg2 hne; omega
      have HBb : Hid (w.heap.size ≤ b ∧ w.heap.size ≤ b2) := ⟨by have := HB1.out.size; omega, by have := HB2.out.size; omega⟩
      clear hr hbel2 hr2 hbl hs12 hbb hbb2 hgg hgg2 HE2
      go_wp2_with (first | (go_at_call 22; refine (sum_w _ g0 _ l HW3.out).mono ?_; rintro e w ⟨rfl, rfl⟩) | (go_at_call 23; refine (rsum_any _ g0 _ l HW3.out).mono ?_; rintro e w ⟨rfl, rfl⟩))
      go_loopw [8] (fun i wr => ∃ j : Nat, j ≤ l.length ∧ i = .int .i64 j ∧ (∀ k, g1 = some k → Fl wr k l.length) ∧ Keeps (fun k => g1 = some k) w3 wr) (fun i _ => l.length - (intOf i).toNat)
      case atStart => exact ⟨0, Nat.zero_le _, rfl, fun k hk => (HF3.out k hk).1, Keeps.refl _ _⟩
      case round =>
        obtain ⟨j, hj, rfl, hfl, hkj⟩ := hrel
        have HFL := Lib.hid hfl
        have HKJ := Lib.hid hkj
        clear hfl hkj
        by_cases hlt : j < l.length
        · obtain ⟨k, rfl⟩ := HS3.out (not_nil hlt)
          obtain ⟨_, rfl, f2, f3⟩ := HF3.out k rfl
          obtain ⟨⟨z, cz⟩, fz⟩ := (HFL.out k rfl).cell hlt
          go_wp2_with fail
          go_roundw
          case rel => exact ⟨j + 1, hlt, by go_num, fun k' hk' => by cases hk'; exact (HFL.out k rfl).set j _, HKJ.out.then (Keeps.setCell (S := fun x => some k = some x) (p := ⟨k, j, none⟩) (fun _ => rfl) _)⟩
          case measure => simp [intOf]; omega
        · obtain rfl : j = l.length := by omega
          have HE4 : Hid (EyeAt wr b g (l.drop 0) false) := HE3.out.keep HKJ.out HQ1.out HQ3.out
          have HR4 := Lib.hid (HR3.out.keep HKJ.out HQ2.out HQ4.out)
          have HB4 : Hid (Below w.heap.size w wr) := HB3.out.trans (HKJ.out.below HB3.out.size (fun k hk h => by have := HN1.out k h; omega))
          clear HFL HF3 HE3 HR3 HW3
          go_wp2_with fail
          generalize wr = w4 at *
          go_loopw [9] (fun i wr => ∃ j : Nat, j ≤ ks.length ∧ i = .int .i64 j ∧ ∃ p bl, EyeAt wr b g (l.drop p) bl ∧ RAt wr b2 g2 l p bl ∧ Keeps (fun k => k = b ∨ k = b2) w4 wr) (fun i _ => ks.length - (intOf i).toNat)
          case atStart => exact ⟨0, Nat.zero_le _, rfl, 0, false, HE4.out, HR4.out, Keeps.refl _ _⟩
          case round =>
            obtain ⟨j, hj, rfl, p, bl, hej, hrj, hkj⟩ := hrel
            have HEJ := Lib.hid hej
            have HRJ := Lib.hid hrj
            have HKQ := Lib.hid hkj
            have HB : Hid (Below w.heap.size w wr) := HB4.out.trans (hkj.below HB4.out.size (fun k hk h => by have := HBb.out; omega))
            clear hej hrj hkj
            by_cases hlt : j < ks.length
            · obtain ⟨k, hk⟩ := get_lt hlt
              have hgw := HG2.out (not_nil hlt)
              obtain ⟨o, rfl, hc⟩ := HI.out (not_nil hlt)
              have cx := (HB.out.cell (p := ⟨g3, o + j, none⟩) hgw).trans (hc j k hk)
              clear hc hk
              by_cases k0 : k = 0
              · subst k0
                go_wp2_with (first | (go_at_call 24; refine (eyeInt_any _ b g (l.drop p) bl HEJ.out).mono ?_; rintro e w5 ⟨rfl, he5, hk5⟩; rw [behind_step] at he5; have HE5 := Lib.hid he5; have HR5 := Lib.hid (HRJ.out.keep hk5 HNB2.out HNG2.out); have HK5 := Lib.hid (HKQ.out.then (hk5.mono (fun _ _ h => .inl h))); clear he5 hk5) | (go_at_call 25; refine (rInt_any _ b2 g2 l p bl HR5.out).mono ?_; rintro e w6 ⟨rfl, hr6, hk6⟩; have H6E := Lib.hid (HE5.out.keep hk6 HNB.out (fun hne => HNG.out (drop_ne hne))); have H6R := Lib.hid hr6; have H6K := Lib.hid (HK5.out.then (hk6.mono (fun _ _ h => .inr h))); clear hr6 hk6))
                obtain ⟨a7, c7, _, d0, d1, d2, _, _, hlt7, hp7, hB7⟩ := H6R.out.cells
                have HEX := Lib.hid fun z : Aft _ => H6E.out.before (aftK z)
                have HRX := Lib.hid fun z : Aft _ => H6R.out.before (aftK z)
                refine region_aft (by kernel_rfl) (by kernel_rfl) ?_
                repeat (go_big_quiet_step (first | (go_at_call 35; exact aft_same (left_r _ b g l _ _ (HEX.out _) hp7)) | (go_at_call 37; exact aft_same (done_any _ b g _ _ (HEX.out _))) | (go_at_call 36; exact aft_same (num_any _ _)) | (go_at_call 38; exact aft_of (rDone_any _ b2 g2 l _ _ (HRX.out _)))))
                refine wpQuiet_nil ?_
                rintro w7 ⟨z, rfl⟩
                go_wp2
                go_roundw
                case rel => exact ⟨j + 1, hlt, by go_num, _, _, HEX.out z, HRX.out z, H6K.out.then (aftK z)⟩
                case measure => simp [intOf]; omega
              · skip
                by_cases k1 : k = 1
                · subst k1
                  go_wp2_with (first | (go_at_call 26; refine (eyeText_any _ b g (l.drop p) bl HEJ.out).mono ?_; rintro e w5 ⟨rfl, he5, hk5⟩; rw [behind_step] at he5; have HE5 := Lib.hid he5; have HR5 := Lib.hid (HRJ.out.keep hk5 HNB2.out HNG2.out); have HK5 := Lib.hid (HKQ.out.then (hk5.mono (fun _ _ h => .inl h))); clear he5 hk5) | (go_at_call 27; refine (rText_any _ b2 g2 l p bl HR5.out).mono ?_; rintro e w6 ⟨rfl, hr6, hk6⟩; have H6E := Lib.hid (HE5.out.keep hk6 HNB.out (fun hne => HNG.out (drop_ne hne))); have H6R := Lib.hid hr6; have H6K := Lib.hid (HK5.out.then (hk6.mono (fun _ _ h => .inr h))); clear hr6 hk6))
                  obtain ⟨a7, c7, _, d0, d1, d2, _, _, hlt7, hp7, hB7⟩ := H6R.out.cells
                  have HEX := Lib.hid fun z : Aft _ => H6E.out.before (aftK z)
                  have HRX := Lib.hid fun z : Aft _ => H6R.out.before (aftK z)
                  refine region_aft (by kernel_rfl) (by kernel_rfl) ?_
                  repeat (go_big_quiet_step (first | (go_at_call 35; exact aft_same (left_r _ b g l _ _ (HEX.out _) hp7)) | (go_at_call 37; exact aft_same (done_any _ b g _ _ (HEX.out _))) | (go_at_call 36; exact aft_same (num_any _ _)) | (go_at_call 38; exact aft_of (rDone_any _ b2 g2 l _ _ (HRX.out _)))))
                  refine wpQuiet_nil ?_
                  rintro w7 ⟨z, rfl⟩
                  go_wp2
                  go_roundw
                  case rel => exact ⟨j + 1, hlt, by go_num, _, _, HEX.out z, HRX.out z, H6K.out.then (aftK z)⟩
                  case measure => simp [intOf]; omega
                · skip
                  by_cases k2 : k = 2
                  · subst k2
                    go_wp2_with (first | (go_at_call 28; refine (eyeBool_any _ b g (l.drop p) bl HEJ.out).mono ?_; rintro e w5 ⟨rfl, he5, hk5⟩; rw [behind_step] at he5; have HE5 := Lib.hid he5; have HR5 := Lib.hid (HRJ.out.keep hk5 HNB2.out HNG2.out); have HK5 := Lib.hid (HKQ.out.then (hk5.mono (fun _ _ h => .inl h))); clear he5 hk5) | (go_at_call 29; refine (rBool_any _ b2 g2 l p bl HR5.out).mono ?_; rintro e w6 ⟨rfl, hr6, hk6⟩; have H6E := Lib.hid (HE5.out.keep hk6 HNB.out (fun hne => HNG.out (drop_ne hne))); have H6R := Lib.hid hr6; have H6K := Lib.hid (HK5.out.then (hk6.mono (fun _ _ h => .inr h))); clear hr6 hk6))
                    obtain ⟨a7, c7, _, d0, d1, d2, _, _, hlt7, hp7, hB7⟩ := H6R.out.cells
                    have HEX := Lib.hid fun z : Aft _ => H6E.out.before (aftK z)
                    have HRX := Lib.hid fun z : Aft _ => H6R.out.before (aftK z)
                    refine region_aft (by kernel_rfl) (by kernel_rfl) ?_
                    repeat (go_big_quiet_step (first | (go_at_call 35; exact aft_same (left_r _ b g l _ _ (HEX.out _) hp7)) | (go_at_call 37; exact aft_same (done_any _ b g _ _ (HEX.out _))) | (go_at_call 36; exact aft_same (num_any _ _)) | (go_at_call 38; exact aft_of (rDone_any _ b2 g2 l _ _ (HRX.out _)))))
                    refine wpQuiet_nil ?_
                    rintro w7 ⟨z, rfl⟩
                    go_wp2
                    go_roundw
                    case rel => exact ⟨j + 1, hlt, by go_num, _, _, HEX.out z, HRX.out z, H6K.out.then (aftK z)⟩
                    case measure => simp [intOf]; omega
                  · skip
                    by_cases k3 : k = 3
                    · subst k3
                      go_wp2_with (first | (go_at_call 30; refine (eyeStamp_any _ b g (l.drop p) bl HEJ.out).mono ?_; rintro e w5 ⟨rfl, he5, hk5⟩; rw [behind_step] at he5; have HE5 := Lib.hid he5; have HR5 := Lib.hid (HRJ.out.keep hk5 HNB2.out HNG2.out); have HK5 := Lib.hid (HKQ.out.then (hk5.mono (fun _ _ h => .inl h))); clear he5 hk5) | (go_at_call 31; refine (rStamp_any _ b2 g2 l p bl HR5.out).mono ?_; rintro e w6 ⟨rfl, hr6, hk6⟩; have H6E := Lib.hid (HE5.out.keep hk6 HNB.out (fun hne => HNG.out (drop_ne hne))); have H6R := Lib.hid hr6; have H6K := Lib.hid (HK5.out.then (hk6.mono (fun _ _ h => .inr h))); clear hr6 hk6))
                      obtain ⟨a7, c7, _, d0, d1, d2, _, _, hlt7, hp7, hB7⟩ := H6R.out.cells
                      have HEX := Lib.hid fun z : Aft _ => H6E.out.before (aftK z)
                      have HRX := Lib.hid fun z : Aft _ => H6R.out.before (aftK z)
                      refine region_aft (by kernel_rfl) (by kernel_rfl) ?_
                      repeat (go_big_quiet_step (first | (go_at_call 35; exact aft_same (left_r _ b g l _ _ (HEX.out _) hp7)) | (go_at_call 37; exact aft_same (done_any _ b g _ _ (HEX.out _))) | (go_at_call 36; exact aft_same (num_any _ _)) | (go_at_call 38; exact aft_of (rDone_any _ b2 g2 l _ _ (HRX.out _)))))
                      refine wpQuiet_nil ?_
                      rintro w7 ⟨z, rfl⟩
                      go_wp2
                      go_roundw
                      case rel => exact ⟨j + 1, hlt, by go_num, _, _, HEX.out z, HRX.out z, H6K.out.then (aftK z)⟩
                      case measure => simp [intOf]; omega
                    · skip
                      by_cases k4 : k = 4
                      · subst k4
                        have HLV : Hid ((valL (l.drop p) bl).length ≤ 1000000) := Nat.le_trans (valL_len _ _) (by rw [List.length_drop]; omega)
                        have hdl : (l.drop p).length ≤ 1000000 := by rw [List.length_drop]; omega
                        have HB2L := Lib.hid HRJ.out.lt
                        go_wp2_with (first | (go_at_call 33; refine (eyeStamps_any _ b g (l.drop p) bl HEJ.out hdl).mono ?_; rintro e w5 ⟨a5', c5', h5, rfl, hs5, hz5, he5, hk5⟩; rw [behind_step] at he5; have HS5 := Lib.hid hs5; have HZ5 := Lib.hid hz5; have HE5 := Lib.hid he5; have HR5 := Lib.hid (HRJ.out.keep hk5 HNB2.out HNG2.out); have HK5 := Lib.hid (HKQ.out.then (hk5.mono (fun _ _ h => .inl h))); clear hs5 hz5 he5 hk5) | (go_at_call 34; refine (rStamps_any _ b2 g2 l p bl HR5.out).mono ?_; rintro e w6 ⟨a6, c6, h6, rfl, hs6, _, hr6, hk6⟩; have HS6 := Lib.hid hs6; have HT6 := Lib.hid (HS5.out.keep hk6 (fun h => by have e : h5 = b2 := h; have := HZ5.out; have := HB2L.out; omega)); have HE6 := Lib.hid (HE5.out.keep hk6 HNB.out (fun hne => HNG.out (drop_ne hne))); have HR6 := Lib.hid hr6; have HK6 := Lib.hid (HK5.out.then (hk6.mono (fun _ _ h => .inr h))); clear hs6 hr6 hk6) | (go_at_call 32; refine (same_any h5 h6 _ _ _ _ (valL (l.drop p) bl) _ HLV.out HT6.out HS6.out (fun h => HT6.out.lt h) (fun h => HS6.out.lt h)).mono ?_; rintro e w8 ⟨rfl, hb8⟩; have H6E := Lib.hid (HE6.out.before (ofB hb8)); have H6R := Lib.hid (HR6.out.before (ofB hb8)); have H6K := Lib.hid (HK6.out.then (ofB hb8)); clear hb8))
                        obtain ⟨a7, c7, _, d0, d1, d2, _, _, hlt7, hp7, hB7⟩ := H6R.out.cells
                        have HEX := Lib.hid fun z : Aft _ => H6E.out.before (aftK z)
                        have HRX := Lib.hid fun z : Aft _ => H6R.out.before (aftK z)
                        refine region_aft (by kernel_rfl) (by kernel_rfl) ?_
                        repeat (go_big_quiet_step (first | (go_at_call 35; exact aft_same (left_r _ b g l _ _ (HEX.out _) hp7)) | (go_at_call 37; exact aft_same (done_any _ b g _ _ (HEX.out _))) | (go_at_call 36; exact aft_same (num_any _ _)) | (go_at_call 38; exact aft_of (rDone_any _ b2 g2 l _ _ (HRX.out _)))))
                        refine wpQuiet_nil ?_
                        rintro w7 ⟨z, rfl⟩
                        go_wp2
                        go_roundw
                        case rel => exact ⟨j + 1, hlt, by go_num, _, _, HEX.out z, HRX.out z, H6K.out.then (aftK z)⟩
                        case measure => simp [intOf]; omega
                      · skip
                        have y0 : (k == 0) = false := by simpa using k0
                        have y1 : (k == 1) = false := by simpa using k1
                        have y2 : (k == 2) = false := by simpa using k2
                        have y3 : (k == 3) = false := by simpa using k3
                        have y4 : (k == 4) = false := by simpa using k4
                        have H6E := HEJ
                        have H6R := HRJ
                        have H6K := HKQ
                        go_wp2_with fail
                        obtain ⟨a7, c7, _, d0, d1, d2, _, _, hlt7, hp7, hB7⟩ := H6R.out.cells
                        have HEX := Lib.hid fun z : Aft _ => H6E.out.before (aftK z)
                        have HRX := Lib.hid fun z : Aft _ => H6R.out.before (aftK z)
                        refine region_aft (by kernel_rfl) (by kernel_rfl) ?_
                        repeat (go_big_quiet_step (first | (go_at_call 35; exact aft_same (left_r _ b g l _ _ (HEX.out _) hp7)) | (go_at_call 37; exact aft_same (done_any _ b g _ _ (HEX.out _))) | (go_at_call 36; exact aft_same (num_any _ _)) | (go_at_call 38; exact aft_of (rDone_any _ b2 g2 l _ _ (HRX.out _)))))
                        refine wpQuiet_nil ?_
                        rintro w7 ⟨z, rfl⟩
                        go_wp2
                        go_roundw
                        case rel => exact ⟨j + 1, hlt, by go_num, _, _, HEX.out z, HRX.out z, H6K.out.then (aftK z)⟩
                        case measure => simp [intOf]; omega
            · obtain rfl : j = ks.length := by omega
              go_wp2_with (go_at_call 13; refine (live_any _).mono ?_; rintro e w9 ⟨rfl, hb1⟩; have HB9 := Lib.hid hb1; clear hb1)
              go_ret
              exact ⟨rfl, bThen' HB.out HB9.out⟩

end Go.Proofs.Ytjojjpfjennnoaa
