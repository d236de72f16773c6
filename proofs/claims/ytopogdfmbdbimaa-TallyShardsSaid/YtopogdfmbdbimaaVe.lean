/- The reference's pick: who has answered, who has not; Nodes, Waiting, All. Conditions: lists of at most a million. -/
import Derived.Test.YtopogdfmbdbimaaVd
set_option linter.unusedVariables false
namespace Go.Proofs.Ytopogdfmbdbimaa
open Go.RowKit

/-- Of all nodes of the shards at these places, those that have answered, or have not. -/
def pickL (l : List Sh) (P N : List Int) (has : Bool) : List Int := (nodesL l P).filter fun n => hasN N n == has
theorem filter_step {p : Int → Bool} {l : List Int} {k : Nat} {x : Int} (hx : l[k]? = some x) : (l.take (k + 1)).filter p = (l.take k).filter p ++ if p x = true then [x] else [] := by
  rw [List.take_add_one, hx, List.filter_append]
  cases h : p x <;> simp [h]
theorem pick_len (l : List Sh) (P N : List Int) (has : Bool) : (pickL l P N has).length ≤ 1000000 := Nat.le_trans (List.length_filter_le _ _) (Nat.le_trans (ofTo_len _ _) (by decide))

set_option maxRecDepth 100000 in
set_option maxHeartbeats 4000000 in
theorem refpick_any (W0 w : World) (b : Nat) (a : Option Addr) (c : Nat) (l : List Sh) (P N : List Int) (vP vN : Value) (has : Bool) (hlen : l.length ≤ 1000000) (hlP : P.length ≤ 1000000) (hlN : N.length ≤ 1000000) (hn5 : ∀ s ∈ l, s.nodes.length ≤ 1000000) (h : RT W0 w b a c l P N vP vN) :
    Calls Try.prog 41 #[.pointer (some ⟨b, 0, none⟩), .bool has] w (RetI w (pickL l P N has)) := by
  obtain ⟨aP, cP, rfl⟩ := h.ownP.form
  obtain ⟨aN, cN, rfl⟩ := h.ownN.form
  have HR := Lib.hid h
  have c0 := h.c0
  have c1 := h.c1
  have hbl := h.lt
  have ilP := h.ownP.at.later (below_drew w)
  have hl0 := h.hl.later (below_drew w)
  have HNL : Hid ((nodesL l P).length ≤ 1000000) := Nat.le_trans (ofTo_len _ _) (by decide)
  unfold pickL
  generalize hall : nodesL l P = all at *
  have HALL := Lib.hid hall
  clear h hall
  go_enter Try.func41, Try.ntmps41
  go_wp2
  go_region_with ((go_at_call 28; refine (refnodes_any _ _ l _ _ P _ hlen hlP hn5 hl0 ilP).mono ?_; rintro e w3 ⟨v3, rfl, ho3, hb3⟩; rw [HALL.out] at ho3; obtain ⟨a3, c3, rfl⟩ := ho3.form; have IL3 := Lib.hid ho3.at; have HR3 := Lib.hid ((HR.out.later (below_drew w)).later hb3); have HS3 := Lib.hid (blThen (below_drew w) hb3); clear ho3 hb3))
  all_goals
    clear c0 c1 hbl ilP hl0
    go_wp2
    go_loopw [6, 7] (fun v i wr => ∃ k : Nat, k ≤ all.length ∧ i = .int .i64 k ∧ OwnI wr w3.heap.size v ((all.take k).filter fun n => hasN N n == has) ∧ Below w3.heap.size w3 wr) (fun _ i _ => all.length - (intOf i).toNat)
    case atStart => exact ⟨0, Nat.zero_le _, rfl, OwnI.nil _ _, Below.refl _ _⟩
    case round =>
      obtain ⟨k, hk, rfl, ho, hb⟩ := hrel
      obtain ⟨av, cv, rfl⟩ := ho.form
      have HO := Lib.hid ho
      have HB := Lib.hid hb
      clear ho
      by_cases hlt : k < all.length
      · obtain ⟨x, hx⟩ := at_lt hlt
        obtain ⟨g, o, rfl, hg, d0⟩ := IL3.out.at hx
        have c0 := cell_in hb hg d0
        have hgw := Nat.lt_of_lt_of_le hg hb.size
        have hk0 : (0 : Int) ≤ (k : Int) := by omega
        have hk1 : (k : Int) < (all.length : Int) := by omega
        have hdk : decide ((k : Int) < (all.length : Int)) = true := decide_eq_true hk1
        have hr := HR3.out.later hb
        have c2 := hr.c2
        have hbl := hr.lt
        have HIN := Lib.hid hr.ownN.at
        have HT := Lib.hid (filter_step (p := fun n => hasN N n == has) hx)
        have HLK : Hid (((all.take k).filter fun n => hasN N n == has).length ≤ 1000000) := Nat.le_trans (List.length_filter_le _ _) (Nat.le_trans (by rw [List.length_take]; omega) HNL.out)
        clear hx d0 hr hb
        generalize hh : hasN N x = y at *
        have HH := Lib.hid hh
        clear hh
        generalize hq : (y == has) = q at *
        have HQ := Lib.hid hq
        clear hq
        go_wp2
        go_quiet ((go_at_call 25; exact Calls.quiet_of_same ((refin_i _ _ N x _ hlN (HIN.out.later (blDrewN (Below.refl _ _) _))).mono fun e w' h => ⟨h.1.trans (by rw [HH.out]), h.2.symm⟩)))
        rw [HQ.out]
        have hnl : all.length ≤ 1000000 := HNL.out
        have hdr : Below wr.heap.size wr (wr.drewN nq) := blDrewN (Below.refl _ _) _
        have HO2 := Lib.hid (HO.out.later hdr)
        have HB2 := Lib.hid (HB.out.trans (hdr.mono HB.out.size))
        have c3' := cell_in hdr hgw c0
        have hgw3 := Nat.lt_of_lt_of_le hgw hdr.size
        clear hdr c0 c2 hgw hbl
        generalize wr.drewN nq = w4 at *
        cases q
        · go_wp2
          go_roundw
          case rel => exact ⟨k + 1, hlt, by go_num, by rw [HT.out]; simp only [Bool.false_eq_true, if_false, List.append_nil]; exact HO2.out, HB2.out⟩
          case measure => simp [intOf]; omega
        · go_wp2_with (at_builtin; refine append_i rfl _ _ rfl w3.heap.size _ ((all.take k).filter fun n => hasN N n == has) rfl (HO2.out.later (blAlloc (Below.refl _ _) _)) _ _ _ [x] rfl rfl (one_newI _ _ _ rfl) (by have := HLK.out; simp only [List.length_singleton]; omega) (by have := HB2.out.size; simp; omega) ?_; intro v1 w5 h1 h2; have H1 := Lib.hid h1; have H2 := Lib.hid (grown_belowI (blAlloc HB2.out _) (HO2.out.later (blAlloc (Below.refl _ _) _)) (Nat.le_refl _) (by have := HB2.out.size; simp; omega) h2); clear h1 h2)
          go_roundw
          case rel => exact ⟨k + 1, hlt, by go_num, by rw [HT.out]; exact H1.out, H2.out⟩
          case measure => simp [intOf]; omega
      · obtain rfl : k = all.length := by omega
        have hdk : decide ((all.length : Int) < (all.length : Int)) = false := by simp
        clear hb
        go_wp2
        go_ret
        exact ⟨_, rfl, by have h := HO.out; rw [List.take_of_length_le (Nat.le_refl _)] at h ⊢; exact h.mono HS3.out.size, HS3.out.trans (HB.out.mono HS3.out.size)⟩

set_option maxHeartbeats 1000000 in
theorem reftnodes_any (W0 w : World) (b : Nat) (a : Option Addr) (c : Nat) (l : List Sh) (P N : List Int) (vP vN : Value) (hlen : l.length ≤ 1000000) (hlP : P.length ≤ 1000000) (hlN : N.length ≤ 1000000) (hn5 : ∀ s ∈ l, s.nodes.length ≤ 1000000) (h : RT W0 w b a c l P N vP vN) :
    Calls Try.prog 21 #[.pointer (some ⟨b, 0, none⟩)] w (RetI w (pickL l P N true)) := by
  have PK := Lib.hid (refpick_any W0 w b a c l P N vP vN true hlen hlP hlN hn5 h)
  clear h
  go_enter Try.func21, Try.ntmps21
  go_wp2_with (go_at_call 41; refine PK.out.mono ?_; rintro e w3 ⟨v3, rfl, ho3, hb3⟩; have HO3 := Lib.hid ho3; have HB3 := Lib.hid hb3; clear ho3 hb3)
  go_ret
  exact ⟨_, rfl, HO3.out, HB3.out⟩

set_option maxHeartbeats 1000000 in
theorem reftwaiting_any (W0 w : World) (b : Nat) (a : Option Addr) (c : Nat) (l : List Sh) (P N : List Int) (vP vN : Value) (hlen : l.length ≤ 1000000) (hlP : P.length ≤ 1000000) (hlN : N.length ≤ 1000000) (hn5 : ∀ s ∈ l, s.nodes.length ≤ 1000000) (h : RT W0 w b a c l P N vP vN) :
    Calls Try.prog 23 #[.pointer (some ⟨b, 0, none⟩)] w (RetI w (pickL l P N false)) := by
  have PK := Lib.hid (refpick_any W0 w b a c l P N vP vN false hlen hlP hlN hn5 h)
  clear h
  go_enter Try.func23, Try.ntmps23
  go_wp2_with (go_at_call 41; refine PK.out.mono ?_; rintro e w3 ⟨v3, rfl, ho3, hb3⟩; have HO3 := Lib.hid ho3; have HB3 := Lib.hid hb3; clear ho3 hb3)
  go_ret
  exact ⟨_, rfl, HO3.out, HB3.out⟩

/-- All have answered, just if nobody is waited for. -/
theorem done_pick (l : List Sh) (P N : List Int) : doneB l P (hasN N) = decide ((pickL l P N false).length = 0) := by
  unfold doneB pickL
  rw [Bool.eq_iff_iff, List.all_eq_true, decide_eq_true_eq, List.length_eq_zero_iff, List.filter_eq_nil_iff]
  constructor
  · intro h x hx
    simp [h x hx]
  · intro h x hx
    have := h x hx
    cases hh : hasN N x <;> simp_all

set_option maxHeartbeats 1000000 in
theorem reftall_any (W0 w : World) (b : Nat) (a : Option Addr) (c : Nat) (l : List Sh) (P N : List Int) (vP vN : Value) (hlen : l.length ≤ 1000000) (hlP : P.length ≤ 1000000) (hlN : N.length ≤ 1000000) (hn5 : ∀ s ∈ l, s.nodes.length ≤ 1000000) (h : RT W0 w b a c l P N vP vN) :
    Calls Try.prog 16 #[.pointer (some ⟨b, 0, none⟩)] w fun e w' => e = .returned (.bool (doneB l P (hasN N))) ∧ Below w.heap.size w w' := by
  have PK := Lib.hid (reftwaiting_any W0 w b a c l P N vP vN hlen hlP hlN hn5 h)
  have hpl := pick_len l P N false
  rw [done_pick]
  clear h
  generalize pickL l P N false = x at *
  go_enter Try.func16, Try.ntmps16
  go_wp2_with (go_at_call 23; refine PK.out.mono ?_; rintro e w3 ⟨v3, rfl, ho3, hb3⟩; obtain ⟨a3, c3, rfl⟩ := ho3.form; have HB3 := Lib.hid hb3; clear ho3 hb3)
  go_ret
  exact ⟨ret_bool (by rw [Bool.eq_iff_iff, beq_iff_eq, decide_eq_true_eq]; omega), HB3.out⟩

end Go.Proofs.Ytopogdfmbdbimaa
