/- The reference's New and Add. Conditions: lists of at most a million. -/
import Derived.Test.YtopogdfmbdbimaaVb
set_option linter.unusedVariables false
namespace Go.Proofs.Ytopogdfmbdbimaa
open Go.RowKit

theorem stepP_neg {l : List Sh} {P : List Int} {i : Int} (h : i < 0) : stepP l P i = P := by
  unfold stepP
  rw [atSh_isSome, decide_eq_false (by omega)]
  rfl
theorem stepP_out {l : List Sh} {P : List Int} {i : Int} (h : (l.length : Int) ≤ i) : stepP l P i = P := by
  unfold stepP
  rw [atSh_isSome, decide_eq_false (by omega)]
  rfl
theorem stepP_in {l : List Sh} {P : List Int} {i : Int} (h0 : 0 ≤ i) (h : i < (l.length : Int)) : stepP l P i = if hasN P i = true then P else P ++ [i] := by
  unfold stepP
  rw [atSh_isSome, decide_eq_true ⟨h0, h⟩]
  cases hasN P i <;> rfl

theorem OwnI.formN {w : World} {base : Nat} {v : Value} {l : List Int} (h : OwnI w base v l) (n : Nat) (hn : l.length = n) : ∃ a c, v = .slice a n c := by
  subst hn
  exact h.form
theorem cell3 {w : World} {b : Nat} {u0 u1 u2 : Value} {t : TypeId} (h : w.heap[b]? = some (.cells #[u0, u1, u2] t (0, 0))) : w.cell? ⟨b, 0, none⟩ = some u0 ∧ w.cell? ⟨b, 1, none⟩ = some u1 ∧ w.cell? ⟨b, 2, none⟩ = some u2 := by
  refine ⟨?_, ?_, ?_⟩ <;> (rw [cell_of_row w b _ _ _ _ h]; rfl)
theorem free3 {w : World} {b : Nat} {u0 u1 u2 : Value} {t : TypeId} (h : w.heap[b]? = some (.cells #[u0, u1, u2] t (0, 0))) (i : Nat) : w.frozen? ⟨b, i, none⟩ = false := by simp [World.frozen?, h]

set_option maxRecDepth 100000 in
set_option maxHeartbeats 4000000 in
theorem refnew_any (W0 w : World) (a : Option Addr) (c : Nat) (l : List Sh) (ap : Option Addr) (cp : Nat) (S : List Int) (hlen : l.length ≤ 1000000) (hls : S.length ≤ 1000000) (ha : Hl W0 a l) (hb0 : Below W0.heap.size W0 w) (hp : Il W0 ap cp S) :
    Calls Try.prog 12 #[.slice a l.length c, .slice ap S.length cp] w fun e w' => ∃ vP, e = .returned (.pointer (some ⟨w.heap.size, 0, none⟩)) ∧ RT W0 w' w.heap.size a c l (placesL l S) [] vP (.slice none 0 0) ∧ Below w.heap.size w w' ∧ ∀ x, footR w.heap.size vP (.slice none 0 0) x → w.heap.size ≤ x := by
  have HP := Lib.hid hp
  have HB0 := Lib.hid hb0
  have HN := Lib.hid (RT.new (c := c) ha hb0)
  have HBN := Lib.hid (blAlloc (Below.refl w.heap.size w) (.cells #[.slice a l.length c, .slice none 0 0, .slice none 0 0] 35))
  clear ha hp hb0
  go_enter Try.func12, Try.ntmps12
  go_wp2
  go_loopw [6] (fun i wr => ∃ (k : Nat) (vP : Value), k ≤ S.length ∧ i = .int .i64 k ∧ RT W0 wr w.heap.size a c l (placesL l (S.take k)) [] vP (.slice none 0 0) ∧ Below w.heap.size w wr ∧ ∀ x, footR w.heap.size vP (.slice none 0 0) x → w.heap.size ≤ x) (fun i _ => S.length - (intOf i).toNat)
  case atStart => exact ⟨0, _, Nat.zero_le _, rfl, HN.out, HBN.out, fun x hx => by
    rcases hx with rfl | hx | hx
    · exact Nat.le_refl _
    · simp [Value.ownBlock] at hx
    · simp [Value.ownBlock] at hx⟩
  case round =>
    obtain ⟨k, vP, hk, rfl, hr, hb, hf⟩ := hrel
    obtain ⟨aP, cP, rfl⟩ := hr.ownP.form
    have HR := Lib.hid hr
    have HB := Lib.hid hb
    have HF := Lib.hid hf
    clear hf
    by_cases hlt : k < S.length
    · obtain ⟨i, hi⟩ := at_lt hlt
      obtain ⟨gp, op, rfl, hgp, d0⟩ := HP.out.at hi
      have c0 := cell_in hr.bel hgp d0
      have hgw := Nat.lt_of_lt_of_le hgp hr.bel.size
      have hk0 : (0 : Int) ≤ (k : Int) := by omega
      have hk1 : (k : Int) < (S.length : Int) := by omega
      have hdk : decide ((k : Int) < (S.length : Int)) = true := decide_eq_true hk1
      have t1 := hr.c1
      have hbl := hr.lt
      have HT := Lib.hid (places_take (l := l) hi)
      have HPL : Hid ((placesL l (S.take k)).length ≤ 1000000) := Nat.le_trans (places_len _ _) (by rw [List.length_take]; omega)
      have HIL := Lib.hid hr.ownP.at
      clear hi hr hb d0
      by_cases hi0 : 0 ≤ i
      · have hd0 : decide ((0 : Int) ≤ i) = true := decide_eq_true hi0
        by_cases hil : i < (l.length : Int)
        · have hdl : decide (i < (l.length : Int)) = true := decide_eq_true hil
          have HSI := Lib.hid (stepP_in (P := placesL l (S.take k)) hi0 hil)
          generalize placesL l (S.take k) = P at *
          generalize hh : hasN P i = x at *
          have HH := Lib.hid hh
          clear hh
          cases x
          · go_wp2
            go_quiet ((go_at_call 25; exact Calls.quiet_of_same ((refin_i _ _ P i _ HPL.out (HIL.out.later (blDrewN (Below.refl _ _) _))).mono fun e w' h => ⟨h.1.trans (by rw [HH.out]), h.2.symm⟩)))
            have hdr : Below wr.heap.size wr (wr.drewN nq) := blDrewN (Below.refl _ _) _
            have hr2 := HR.out.later hdr
            have HB2 := Lib.hid (HB.out.trans (hdr.mono HB.out.size))
            have c3 := cell_in hdr hgw c0
            have hgw3 := Nat.lt_of_lt_of_le hgw hdr.size
            have hws := hdr.size
            clear hdr c0 hgw t1 hbl
            generalize wr.drewN nq = w2 at *
            have t2 := hr2.c1
            have hbl2 := hr2.lt
            have HR2 := Lib.hid hr2
            have HLEN : Hid (P.length + [i].length ≤ 4000000) := by show _ ≤ _; have := HPL.out; simp only [List.length_singleton]; omega
            have HSZ : Hid (w.heap.size ≤ w2.heap.size) := HB2.out.size
            clear hr2
            go_wp2
            go_region_law (refine step_i rfl (.tmp 46) (.tmp 51) rfl w2 (by simp [Act.eval]) (by simp [Act.eval]) (l := [i]) rfl HR2.out.ownP (by repeat (first | with_reducible exact Keeps.refl _ _ | with_reducible refine keepsAlloc ?_ _ | with_reducible refine keepsDrew ?_)) (il_one (w0 := w2) rfl rfl) HLEN.out ?_; intro v' w' h1 h2 h3; obtain ⟨ao, an, rfl⟩ := h1.formN (P.length + 1) (by simp); obtain ⟨hv', hr3, hs3⟩ := HR2.out.addP (by repeat (first | with_reducible exact Keeps.refl _ _ | with_reducible refine keepsAlloc ?_ _ | with_reducible refine keepsDrew ?_)) h1 h2 h3; have q1 := (cell3 hv').2.1; have q2 := free3 hv' 1; have HR3 := Lib.hid hr3; have HS3 := Lib.hid hs3; clear h1 h2 h3 hv' hr3 hs3)
            all_goals
              go_wp2
              go_roundw
              case rel => exact ⟨k + 1, _, hlt, by go_num, by rw [HT.out, HSI.out]; exact HR3.out, HB2.out.trans (HS3.out.keeps.below HSZ.out fun x hx hs => by have := HF.out x hs; omega), fun x hx => by
                rcases HS3.out.new x hx with e | e
                · exact HF.out x e
                · exact Nat.le_trans HSZ.out e⟩
              case measure => simp [intOf]; omega
          · go_wp2
            go_quiet ((go_at_call 25; exact Calls.quiet_of_same ((refin_i _ _ P i _ HPL.out (HIL.out.later (blDrewN (Below.refl _ _) _))).mono fun e w' h => ⟨h.1.trans (by rw [HH.out]), h.2.symm⟩)))
            go_wp2
            go_roundw
            case rel => exact ⟨k + 1, _, hlt, by go_num, by rw [HT.out, HSI.out]; exact HR.out.later ⟨rfl, rfl, rfl, Nat.le_refl _, fun _ _ => rfl⟩, HB.out.trans ⟨rfl, rfl, rfl, Nat.le_refl _, fun _ _ => rfl⟩, HF.out⟩
            case measure => simp [intOf]; omega
        · have hdl : decide (i < (l.length : Int)) = false := decide_eq_false hil
          have HSI := Lib.hid (stepP_out (P := placesL l (S.take k)) (i := i) (l := l) (by omega))
          generalize placesL l (S.take k) = P at *
          go_wp2
          go_quiet (fail)
          go_wp2
          go_roundw
          case rel => exact ⟨k + 1, _, hlt, by go_num, by rw [HT.out, HSI.out]; exact HR.out.later ⟨rfl, rfl, rfl, Nat.le_refl _, fun _ _ => rfl⟩, HB.out.trans ⟨rfl, rfl, rfl, Nat.le_refl _, fun _ _ => rfl⟩, HF.out⟩
          case measure => simp [intOf]; omega
      · have hd0 : decide ((0 : Int) ≤ i) = false := decide_eq_false hi0
        have HSI := Lib.hid (stepP_neg (P := placesL l (S.take k)) (i := i) (l := l) (by omega))
        generalize placesL l (S.take k) = P at *
        go_wp2
        go_quiet (fail)
        go_wp2
        go_roundw
        case rel => exact ⟨k + 1, _, hlt, by go_num, by rw [HT.out, HSI.out]; exact HR.out.later ⟨rfl, rfl, rfl, Nat.le_refl _, fun _ _ => rfl⟩, HB.out.trans ⟨rfl, rfl, rfl, Nat.le_refl _, fun _ _ => rfl⟩, HF.out⟩
        case measure => simp [intOf]; omega
    · have HRF : Hid (RT W0 wr w.heap.size a c l (placesL l S) [] (.slice aP (placesL l (S.take k)).length cP) (.slice none 0 0)) := by have h := HR.out; rw [List.take_of_length_le (by omega)] at h ⊢; exact h
      have hdk : decide ((k : Int) < (S.length : Int)) = false := decide_eq_false (by omega)
      clear hr hb
      go_wp2
      go_ret
      exact ⟨_, rfl, HRF.out, HB.out, HF.out⟩

end Go.Proofs.Ytopogdfmbdbimaa
