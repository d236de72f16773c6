/- The reference's at: Quorum, Each. Conditions: lists of at most a million; places that are some. -/
import Derived.Test.YtopogdfmbdbimaaVe
set_option linter.unusedVariables false
namespace Go.Proofs.Ytopogdfmbdbimaa
open Go.RowKit

/-- Of each shard's nodes t times those that have answered are more than o times all. -/
def atB (l : List Sh) (P : List Int) (f : Int → Bool) (t o : Nat) : Bool := forAll l P fun s => decide (o * s.nodes.length < t * cntF f s.nodes)
theorem atB_quo (l : List Sh) (P : List Int) (f : Int → Bool) : atB l P f 2 1 = quoB l P f := by simp [atB, quoB]
theorem atB_each (l : List Sh) (P : List Int) (f : Int → Bool) : atB l P f 1 0 = eachB l P f := by simp [atB, eachB]
theorem atB_take {l : List Sh} {P : List Int} {f : Int → Bool} {t o k : Nat} {i : Int} {s : Sh} (hi : P[k]? = some i) (hs : atSh l i = some s) : atB l (P.take (k + 1)) f t o = (atB l (P.take k) f t o && decide (o * s.nodes.length < t * cntF f s.nodes)) := by
  unfold atB forAll
  rw [List.take_add_one, hi, List.all_append]
  simp [hs]
theorem atB_no {l : List Sh} {P : List Int} {f : Int → Bool} {t o k : Nat} {i : Int} {s : Sh} (hi : P[k]? = some i) (hs : atSh l i = some s) (h : decide (o * s.nodes.length < t * cntF f s.nodes) = false) : atB l P f t o = false := by
  cases hq : atB l P f t o
  · rfl
  · unfold atB at hq
    rw [forAll_true] at hq
    have := hq i (List.mem_of_getElem? hi) s hs
    rw [h] at this
    cases this
theorem cnt_take {f : Int → Bool} {l : List Int} {j : Nat} {x : Int} (hx : l[j]? = some x) : cntF f (l.take (j + 1)) = cntF f (l.take j) + if f x = true then 1 else 0 := by
  unfold cntF
  rw [filter_step hx, List.length_append]
  cases f x <;> simp
theorem wrap_mul {o n : Nat} (h : o * n ≤ 2000000) : wrap64 ((o : Int) * (n : Int)) = ((o * n : Nat) : Int) := by
  rw [← Int.natCast_mul]
  exact IntWalk.wrap64_in _ (by omega)
theorem leq_mul {o n t m : Nat} (h1 : o * n ≤ 2000000) (h2 : t * m ≤ 2000000) : decide (wrap64 ((t : Int) * (m : Int)) ≤ wrap64 ((o : Int) * (n : Int))) = !decide (o * n < t * m) := by
  rw [wrap_mul h1, wrap_mul h2]
  generalize o * n = x at *
  generalize t * m = y at *
  by_cases h : x < y
  · rw [decide_eq_true h]
    exact decide_eq_false (by omega)
  · rw [decide_eq_false h]
    exact decide_eq_true (by omega)

set_option maxRecDepth 100000 in
set_option maxHeartbeats 400000 in
theorem refat_any (W0 w : World) (b : Nat) (a : Option Addr) (c : Nat) (l : List Sh) (P N : List Int) (vP vN : Value) (t o : Nat) (ht : t ≤ 2) (ho2 : o ≤ 1) (hlen : l.length ≤ 1000000) (hlP : P.length ≤ 1000000) (hlN : N.length ≤ 1000000) (hn5 : ∀ s ∈ l, s.nodes.length ≤ 1000000) (hPl : ∀ i ∈ P, (atSh l i).isSome = true) (h : RT W0 w b a c l P N vP vN) :
    Calls Try.prog 37 #[.pointer (some ⟨b, 0, none⟩), .int .i64 t, .int .i64 o] w fun e w' => e = .returned (.bool (atB l P (hasN N) t o)) ∧ Below w.heap.size w w' := by
  obtain ⟨aP, cP, rfl⟩ := h.ownP.form
  obtain ⟨aN, cN, rfl⟩ := h.ownN.form
  have HR := Lib.hid h
  have HPL := Lib.hid hPl
  have HN5 := Lib.hid hn5
  generalize hv : atB l P (hasN N) t o = v
  have HV := Lib.hid hv
  clear h hPl hn5 hv
  go_enter Try.func37, Try.ntmps37
  go_wp2
  go_loopw [7] (fun i wr => ∃ k : Nat, k ≤ P.length ∧ i = .int .i64 k ∧ atB l (P.take k) (hasN N) t o = true ∧ Below w.heap.size w wr) (fun i _ => P.length - (intOf i).toNat)
  case atStart => exact ⟨0, Nat.zero_le _, rfl, rfl, Below.refl _ _⟩
  case round =>
    obtain ⟨k, hk, rfl, hr, hb⟩ := hrel
    have HB := Lib.hid hb
    have HR2 := Lib.hid (HR.out.later hb)
    have c0 := HR2.out.c0
    have c1 := HR2.out.c1
    have hbl := HR2.out.lt
    by_cases hlt : k < P.length
    · obtain ⟨i, hi⟩ := at_lt hlt
      obtain ⟨gp, op, rfl, hgp, d0⟩ := HR2.out.ownP.at.at hi
      have hk0 : (0 : Int) ≤ (k : Int) := by omega
      have hk1 : (k : Int) < (P.length : Int) := by omega
      have hdk : decide ((k : Int) < (P.length : Int)) = true := decide_eq_true hk1
      obtain ⟨s, hs⟩ := Option.isSome_iff_exists.1 (HPL.out i (List.mem_of_getElem? hi))
      obtain ⟨p, rfl, hpl, hsp⟩ := atSh_some hs
      obtain ⟨g, og, rfl, hg, e0, e1, e2⟩ := HR2.out.hl.at hsp
      have hp0 : (0 : Int) ≤ (p : Int) := by omega
      have hp1 : (p : Int) < (l.length : Int) := by omega
      have HIL := Lib.hid (HR2.out.hl.1 s (List.mem_of_getElem? hsp))
      have hnl := HN5.out s (List.mem_of_getElem? hsp)
      have HT := Lib.hid (atB_take (f := hasN N) (t := t) (o := o) hi hs)
      have HNO := Lib.hid (atB_no (f := hasN N) (t := t) (o := o) hi hs)
      have HRR := Lib.hid hr
      clear hi hs hsp e0 e1 hb hr
      go_wp2
      go_quiet (fail)
      have hdr : Below wr.heap.size wr (wr.drewN nq) := blDrewN (Below.refl _ _) _
      have HB3 := Lib.hid (HB.out.trans (hdr.mono HB.out.size))
      have HR3 := Lib.hid (HR2.out.later hdr)
      have HIL3 := Lib.hid (HIL.out.later hdr)
      clear hdr c0 c1 hbl d0 e2 hgp hg
      generalize wr.drewN nq = w3 at *
      go_wp2
      go_loopw [9, 10] (fun v j wr => ∃ q : Nat, q ≤ s.nodes.length ∧ j = .int .i64 q ∧ v = .int .i64 (cntF (hasN N) (s.nodes.take q)) ∧ Below w3.heap.size w3 wr) (fun _ j _ => s.nodes.length - (intOf j).toNat)
      case atStart => exact ⟨0, Nat.zero_le _, rfl, rfl, Below.refl _ _⟩
      case round =>
        obtain ⟨q, hq, rfl, rfl, hb4⟩ := hrel
        have HB4 := Lib.hid hb4
        by_cases hlt2 : q < s.nodes.length
        · obtain ⟨x, hx⟩ := at_lt hlt2
          obtain ⟨gx, ox, hax, hgx, d1⟩ := (HIL3.out.later hb4).at hx
          have hq0 : (0 : Int) ≤ (q : Int) := by omega
          have hq1 : (q : Int) < (s.nodes.length : Int) := by omega
          have hdq : decide ((q : Int) < (s.nodes.length : Int)) = true := decide_eq_true hq1
          have HR4 := Lib.hid (HR3.out.later hb4)
          have c2 := HR4.out.c2
          have hbl := HR4.out.lt
          have HIN := Lib.hid HR4.out.ownN.at
          have HC := Lib.hid (cnt_take (f := hasN N) hx)
          have hcl : cntF (hasN N) (s.nodes.take q) ≤ 1000000 := Nat.le_trans (cntF_le _ _) (by rw [List.length_take]; omega)
          rw [hax]
          clear hx hb4
          generalize hh : hasN N x = y at *
          have HH := Lib.hid hh
          clear hh
          go_wp2
          go_quiet ((go_at_call 25; exact Calls.quiet_of_same ((refin_i _ _ N x _ hlN (HIN.out.later (blDrewN (Below.refl _ _) _))).mono fun e w' h => ⟨h.1.trans (by rw [HH.out]), h.2.symm⟩)))
          have hdr : Below wr.heap.size wr (wr.drewN nq) := blDrewN (Below.refl _ _) _
          have HB5 := Lib.hid (HB4.out.trans (hdr.mono HB4.out.size))
          clear hdr c2 hbl d1 hgx
          generalize wr.drewN nq = w5 at *
          cases y
          · go_wp2
            go_roundw
            case rel => exact ⟨q + 1, hlt2, by go_num, by rw [HC.out]; rfl, HB5.out⟩
            case measure => simp [intOf]; omega
          · go_wp2
            go_roundw
            case rel => exact ⟨q + 1, hlt2, by go_num, by rw [HC.out]; go_num, HB5.out⟩
            case measure => simp [intOf]; omega
        · obtain rfl : q = s.nodes.length := by omega
          have hdq : decide ((s.nodes.length : Int) < (s.nodes.length : Int)) = false := by simp
          have HB5 := Lib.hid (HB3.out.trans (hb4.mono HB3.out.size))
          have hcl := cntF_le (hasN N) s.nodes
          clear hb4
          rw [List.take_of_length_le (Nat.le_refl s.nodes.length)]
          generalize cntF (hasN N) s.nodes = m at *
          generalize s.nodes.length = n at *
          have HLE := Lib.hid (leq_mul (o := o) (n := n) (t := t) (m := m) (Nat.le_trans (Nat.mul_le_mul ho2 hnl) (by decide)) (Nat.le_trans (Nat.mul_le_mul ht (Nat.le_trans hcl hnl)) (by decide)))
          cases hc : decide (o * n < t * m)
          · have HF := Lib.hid (HNO.out hc)
            have hle : decide (wrap64 ((t : Int) * (m : Int)) ≤ wrap64 ((o : Int) * (n : Int))) = true := by rw [HLE.out, hc]; rfl
            clear HNO HT hc HLE
            go_wp2
            go_ret
            exact ⟨ret_bool (HF.out.symm.trans HV.out), HB5.out⟩
          · have hle : decide (wrap64 ((t : Int) * (m : Int)) ≤ wrap64 ((o : Int) * (n : Int))) = false := by rw [HLE.out, hc]; rfl
            rw [hc, Bool.and_true] at HT
            clear HNO hc HLE
            go_wp2
            go_roundw
            case rel => exact ⟨k + 1, hlt, by go_num, HT.out.trans HRR.out, HB5.out⟩
            case measure => simp [intOf]; omega
    · obtain rfl : k = P.length := by omega
      have hdk : decide ((P.length : Int) < (P.length : Int)) = false := by simp
      have HF : Hid (v = true) := by rw [← HV.out]; have h := hr; rwa [List.take_of_length_le (Nat.le_refl _)] at h
      clear hb hr
      go_wp2
      go_ret
      exact ⟨ret_bool HF.out.symm, HB.out⟩

set_option maxHeartbeats 1000000 in
theorem reftquorum_any (W0 w : World) (b : Nat) (a : Option Addr) (c : Nat) (l : List Sh) (P N : List Int) (vP vN : Value) (hlen : l.length ≤ 1000000) (hlP : P.length ≤ 1000000) (hlN : N.length ≤ 1000000) (hn5 : ∀ s ∈ l, s.nodes.length ≤ 1000000) (hPl : ∀ i ∈ P, (atSh l i).isSome = true) (h : RT W0 w b a c l P N vP vN) :
    Calls Try.prog 14 #[.pointer (some ⟨b, 0, none⟩)] w fun e w' => e = .returned (.bool (quoB l P (hasN N))) ∧ Below w.heap.size w w' := by
  have PK := Lib.hid (refat_any W0 w b a c l P N vP vN 2 1 (by decide) (by decide) hlen hlP hlN hn5 hPl h)
  rw [atB_quo] at PK
  clear h hPl
  generalize quoB l P (hasN N) = x at *
  go_enter Try.func14, Try.ntmps14
  go_wp2_with (go_at_call 37; refine PK.out.mono ?_; rintro e w3 ⟨rfl, hb3⟩; have HB3 := Lib.hid hb3; clear hb3)
  go_ret
  exact ⟨rfl, HB3.out⟩
set_option maxHeartbeats 1000000 in
theorem refteach_any (W0 w : World) (b : Nat) (a : Option Addr) (c : Nat) (l : List Sh) (P N : List Int) (vP vN : Value) (hlen : l.length ≤ 1000000) (hlP : P.length ≤ 1000000) (hlN : N.length ≤ 1000000) (hn5 : ∀ s ∈ l, s.nodes.length ≤ 1000000) (hPl : ∀ i ∈ P, (atSh l i).isSome = true) (h : RT W0 w b a c l P N vP vN) :
    Calls Try.prog 18 #[.pointer (some ⟨b, 0, none⟩)] w fun e w' => e = .returned (.bool (eachB l P (hasN N))) ∧ Below w.heap.size w w' := by
  have PK := Lib.hid (refat_any W0 w b a c l P N vP vN 1 0 (by decide) (by decide) hlen hlP hlN hn5 hPl h)
  rw [atB_each] at PK
  clear h hPl
  generalize eachB l P (hasN N) = x at *
  go_enter Try.func18, Try.ntmps18
  go_wp2_with (go_at_call 37; refine PK.out.mono ?_; rintro e w3 ⟨rfl, hb3⟩; have HB3 := Lib.hid hb3; clear hb3)
  go_ret
  exact ⟨rfl, HB3.out⟩

end Go.Proofs.Ytopogdfmbdbimaa
