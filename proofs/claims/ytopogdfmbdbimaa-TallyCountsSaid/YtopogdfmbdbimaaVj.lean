/- TallyCounts, over whatever tally keeps the interface: whatever the topology, the places, the answers, the law returns true. Conditions: none. -/
import Derived.Test.YtopogdfmbdbimaaVi
import Derived.Deep.RegionHeld3
set_option linter.unusedVariables false
set_option linter.unusedSimpArgs false
namespace Go.Proofs.Ytopogdfmbdbimaa
open Go.RowKit

theorem blQ5 {w x : World} (h : Below w.heap.size w x) (n : Nat) : Below w.heap.size w (x.drewN n) := ⟨h.os, h.tape, h.output, h.size, h.block⟩
theorem sameI_refl (l : List Int) : sameI l l = true := by simp [sameI]

set_option maxRecDepth 100000 in
set_option maxHeartbeats 8000000 in
theorem tallyCounts_walk {PT : World → World → Nat → List Sh → List Int → List Int → (Nat → Prop) → Prop} (TC : TallyC PT) (a : Option Addr) (c : Nat) (l : List Sh) (ap : Option Addr) (cp : Nat) (S : List Int) (ax : Option Addr) (cx : Nat) (X : List Int) (w : World) (hh : Hl w a l) (hm : l.length ≤ 9223372036854775807) (hs : Il w ap cp S) (hs9 : S.length ≤ 9223372036854775807) (hx : Il w ax cx X) (hx9 : X.length ≤ 9223372036854775807) (hxw : ∀ n ∈ X, (Lit.int .i64 n).wf = true) :
    Calls Try.prog 3 #[.slice a l.length c, .slice ap S.length cp, .slice ax X.length cx] w fun e w' => e = .returned (.bool true) ∧ Below w.heap.size w w' := by
  have HH := Lib.hid hh
  have HLM := Lib.hid hm
  have HS := Lib.hid hs
  have HX := Lib.hid hx
  have HXW := Lib.hid hxw
  have HB := Lib.hid (Below.refl w.heap.size w)
  clear hh hm hs hx hxw
  go_enter Try.func3, Try.ntmps3
  go_wp2_with fail
  refine (tright_any _ _ l _ HH.out HLM.out).mono ?_
  rintro e _ ⟨b, rfl, htb, hb⟩
  replace HB := Lib.hid (blThen HB.out hb)
  replace HH := Lib.hid (HH.out.later hb)
  replace HS := Lib.hid (HS.out.later hb)
  replace HX := Lib.hid (HX.out.later hb)
  clear hb
  cases b
  · go_wp2_with fail
    refine (tlive5_any TC _).mono ?_
    rintro e _ ⟨rfl, hb⟩
    go_wp2
    go_ret
    exact ⟨rfl, blThen HB.out hb⟩
  have HTP := Lib.hid (topo_of (htb rfl))
  have HN5 := Lib.hid (topo_n5 HTP.out)
  have H8 : Hid (l.length ≤ 1000000) := Nat.le_trans HTP.out.len (by decide)
  clear htb
  by_cases hbigS : 40 < S.length
  · have hbigI : (40 : Int) < (S.length : Int) := by omega
    have hdS : decide ((40 : Int) < (S.length : Int)) = true := decide_eq_true hbigI
    go_wp2_with fail
    refine (tlive5_any TC _).mono ?_
    rintro e _ ⟨rfl, hb⟩
    go_wp2
    go_ret
    exact ⟨rfl, blThen HB.out hb⟩
  have hbigIS : ¬ (40 : Int) < (S.length : Int) := by omega
  have hdS : decide ((40 : Int) < (S.length : Int)) = false := decide_eq_false hbigIS
  have HS40 : Hid (S.length ≤ 40) := by show _ ≤ _; omega
  by_cases hbigX : 40 < X.length
  · have hbigI : (40 : Int) < (X.length : Int) := by omega
    have hdX : decide ((40 : Int) < (X.length : Int)) = true := decide_eq_true hbigI
    go_wp2_with fail
    refine (tlive5_any TC _).mono ?_
    rintro e _ ⟨rfl, hb⟩
    go_wp2
    go_ret
    exact ⟨rfl, blThen HB.out hb⟩
  have hbigIX : ¬ (40 : Int) < (X.length : Int) := by omega
  have hdX : decide ((40 : Int) < (X.length : Int)) = false := decide_eq_false hbigIX
  have HX40 : Hid (X.length ≤ 40) := by show _ ≤ _; omega
  clear hbigS hbigX
  rename_i W1
  have HO0 : Hid (OwnI (W1.alloc (.cells #[] 3)) W1.heap.size (.slice (some ⟨W1.heap.size, 0, none⟩) 0 0) []) := own_emptyI W1 _ _ rfl (Nat.le_refl _)
  go_wp2_with (at_builtin; refine append_i rfl (.tmp 25) (.tmp 26) rfl W1.heap.size _ [] rfl HO0.out _ _ _ S rfl rfl (HS.out.later (blAlloc (Below.refl _ _) _)) (by have := HS40.out; simp; omega) (by simp) ?_; intro v1 w3 h1 h2; have H1 : Hid (OwnI w3 W1.heap.size v1 S) := h1; have H2 := Lib.hid (grown_belowI (blAlloc (Below.refl W1.heap.size W1) _) HO0.out (Nat.le_refl _) (by simp) h2); clear h1 h2)
  have hb := H2.out
  obtain ⟨a2, c2, rfl⟩ := H1.out.form
  have HS2 := Lib.hid H1.out.at
  clear H1 H2 HO0
  replace HB := Lib.hid (blThen HB.out hb)
  replace HH := Lib.hid (HH.out.later hb)
  replace HS := Lib.hid (HS.out.later hb)
  replace HX := Lib.hid (HX.out.later hb)
  clear hb
  have HBW := HB
  clear HB
  have HB := Lib.hid (Below.refl w3.heap.size w3)
  refine (TC.new w3 _ _ _ l _ _ S HTP.out (Nat.le_trans HS40.out (by decide)) HH.out (Below.refl _ _) HS2.out).mono ?_
  rintro e W2 ⟨b, F, rfl, hp, hb, hf⟩
  have HP := Lib.hid hp
  clear hp hf HS2
  replace HB := Lib.hid hb
  clear hb
  go_wp2_with fail
  refine (refnew_any w3 _ a c l ap cp S H8.out (Nat.le_trans HS40.out (by decide)) HH.out HB.out HS.out).mono ?_
  rintro e W4 ⟨vP, rfl, hr, hb, hf⟩
  have HD : Hid (∀ x, F x → ¬ footR W2.heap.size vP (.slice none 0 0) x) := fun x hx hs => Nat.lt_irrefl _ (Nat.lt_of_lt_of_le (TC.sep HP.out x hx).2 (hf x hs))
  replace HP := Lib.hid (TC.later HP.out hb)
  replace HB := Lib.hid (blThen HB.out hb)
  have HR := Lib.hid hr
  clear hr hb hf
  generalize W2.heap.size = rb at *
  have HPO := Lib.hid (places_ok (l := l) (S := S))
  have HPL : Hid ((placesL l S).length ≤ 40) := Nat.le_trans (places_len l S) HS40.out
  generalize placesL l S = P at *
  have HP6 : Hid (P.length ≤ 1000000) := Nat.le_trans HPL.out (by decide)
  go_wp2
  go_loopw [9] (fun i wr => ∃ (k : Nat) (F : Nat → Prop) (vP vN : Value), k ≤ X.length ∧ i = .int .i64 k ∧ PT w3 wr b l P (addL l P [] (X.take k)) F ∧ RT w3 wr rb a c l P (addL l P [] (X.take k)) vP vN ∧ Below w3.heap.size w3 wr ∧ ∀ x, F x → ¬ footR rb vP vN x) (fun i _ => X.length - (intOf i).toNat)
  case atStart => exact ⟨0, F, vP, _, Nat.zero_le _, rfl, HP.out, HR.out, HB.out, HD.out⟩
  case round =>
    clear HP HR HB HD
    obtain ⟨k, F, vP, vN, hk, rfl, hp, hr, hb, hd⟩ := hrel
    have HP := Lib.hid hp
    have HR := Lib.hid hr
    have HB := Lib.hid hb
    have HD := Lib.hid hd
    clear hp hr hb hd
    have HNL : Hid ((addL l P [] (X.take k)).length ≤ 40) := Nat.le_trans (addL_len0 _ _ _) (Nat.le_trans (by rw [List.length_take]; omega) HX40.out)
    have HTK := Lib.hid (fun x (hx : X[k]? = some x) => addL_take (l := l) (P := P) (N := []) hx)
    generalize addL l P [] (X.take k) = N at *
    have HN1 : Hid (N.length ≤ 1000) := Nat.le_trans HNL.out (by decide)
    have HN6 : Hid (N.length ≤ 1000000) := Nat.le_trans HNL.out (by decide)
    have hdk : decide ((k : Int) ≤ (X.length : Int)) = true := decide_eq_true (by omega)
    have hq1 : (quoB l P (hasN N) != quoB l P (hasN N)) = false := bne_self_eq_false _
    have hq2 : (doneB l P (hasN N) != doneB l P (hasN N)) = false := bne_self_eq_false _
    have hq3 : (eachB l P (hasN N) != eachB l P (hasN N)) = false := bne_self_eq_false _
    go_wp2_with fail
    refine (TC.quorum HN1.out HP.out).mono ?_
    rintro e _ ⟨rfl, hb⟩
    replace HB := Lib.hid (blThen HB.out hb)
    replace HP := Lib.hid (TC.later HP.out hb)
    replace HR := Lib.hid (HR.out.later hb)
    clear hb
    go_wp2_with fail
    refine (reftquorum_any _ _ _ _ _ l P N _ _ H8.out HP6.out HN6.out HN5.out HPO.out HR.out).mono ?_
    rintro e _ ⟨rfl, hb⟩
    replace HB := Lib.hid (blThen HB.out hb)
    replace HP := Lib.hid (TC.later HP.out hb)
    replace HR := Lib.hid (HR.out.later hb)
    clear hb
    go_wp2_with fail
    refine (TC.all HN1.out HP.out).mono ?_
    rintro e _ ⟨rfl, hb⟩
    replace HB := Lib.hid (blThen HB.out hb)
    replace HP := Lib.hid (TC.later HP.out hb)
    replace HR := Lib.hid (HR.out.later hb)
    clear hb
    go_wp2_with fail
    refine (reftall_any _ _ _ _ _ l P N _ _ H8.out HP6.out HN6.out HN5.out HR.out).mono ?_
    rintro e _ ⟨rfl, hb⟩
    replace HB := Lib.hid (blThen HB.out hb)
    replace HP := Lib.hid (TC.later HP.out hb)
    replace HR := Lib.hid (HR.out.later hb)
    clear hb
    go_wp2_with fail
    refine (TC.each HN1.out HP.out).mono ?_
    rintro e _ ⟨rfl, hb⟩
    replace HB := Lib.hid (blThen HB.out hb)
    replace HP := Lib.hid (TC.later HP.out hb)
    replace HR := Lib.hid (HR.out.later hb)
    clear hb
    go_wp2_with fail
    refine (refteach_any _ _ _ _ _ l P N _ _ H8.out HP6.out HN6.out HN5.out HPO.out HR.out).mono ?_
    rintro e _ ⟨rfl, hb⟩
    replace HB := Lib.hid (blThen HB.out hb)
    replace HP := Lib.hid (TC.later HP.out hb)
    replace HR := Lib.hid (HR.out.later hb)
    clear hb
    go_wp2_with fail
    refine (TC.nodes HN1.out HP.out).mono ?_
    rintro e _ ⟨_, rfl, ho, hb⟩
    obtain ⟨au, cu, rfl⟩ := ho.form
    have HIu := Lib.hid ho.at
    clear ho
    replace HB := Lib.hid (blThen HB.out hb)
    replace HP := Lib.hid (TC.later HP.out hb)
    replace HR := Lib.hid (HR.out.later hb)
    clear hb
    go_wp2_with fail
    refine (reftnodes_any _ _ _ _ _ l P N _ _ H8.out HP6.out HN6.out HN5.out HR.out).mono ?_
    rintro e _ ⟨_, rfl, ho, hb⟩
    obtain ⟨av, cv, rfl⟩ := ho.form
    have HIv := Lib.hid ho.at
    clear ho
    replace HB := Lib.hid (blThen HB.out hb)
    replace HIu := Lib.hid (HIu.out.later hb)
    replace HP := Lib.hid (TC.later HP.out hb)
    replace HR := Lib.hid (HR.out.later hb)
    clear hb
    go_wp2_with fail
    refine (ints_any _ _ _ _ (pickL l P N true) (pickL l P N true) _ (pick_len l P N true) HIu.out HIv.out).mono ?_
    rintro e _ ⟨rfl, hb⟩
    replace HB := Lib.hid (blThen HB.out hb)
    replace HIu := Lib.hid (HIu.out.later hb)
    replace HIv := Lib.hid (HIv.out.later hb)
    replace HP := Lib.hid (TC.later HP.out hb)
    replace HR := Lib.hid (HR.out.later hb)
    clear hb
    rw [sameI_refl]
    clear HIu
    clear HIv
    go_wp2_with fail
    refine (TC.waiting HN1.out HP.out).mono ?_
    rintro e _ ⟨_, rfl, ho, hb⟩
    obtain ⟨au, cu, rfl⟩ := ho.form
    have HIu := Lib.hid ho.at
    clear ho
    replace HB := Lib.hid (blThen HB.out hb)
    replace HP := Lib.hid (TC.later HP.out hb)
    replace HR := Lib.hid (HR.out.later hb)
    clear hb
    go_wp2_with fail
    refine (reftwaiting_any _ _ _ _ _ l P N _ _ H8.out HP6.out HN6.out HN5.out HR.out).mono ?_
    rintro e _ ⟨_, rfl, ho, hb⟩
    obtain ⟨av, cv, rfl⟩ := ho.form
    have HIv := Lib.hid ho.at
    clear ho
    replace HB := Lib.hid (blThen HB.out hb)
    replace HIu := Lib.hid (HIu.out.later hb)
    replace HP := Lib.hid (TC.later HP.out hb)
    replace HR := Lib.hid (HR.out.later hb)
    clear hb
    go_wp2_with fail
    refine (ints_any _ _ _ _ (pickL l P N false) (pickL l P N false) _ (pick_len l P N false) HIu.out HIv.out).mono ?_
    rintro e w5 ⟨rfl, hb⟩
    replace HB := Lib.hid (blThen HB.out hb)
    replace HIu := Lib.hid (HIu.out.later hb)
    replace HIv := Lib.hid (HIv.out.later hb)
    replace HP := Lib.hid (TC.later HP.out hb)
    replace HR := Lib.hid (HR.out.later hb)
    clear hb
    rw [sameI_refl]
    clear HIu
    clear HIv
    by_cases hlt : k < X.length
    · obtain ⟨x, hx⟩ := at_lt hlt
      have HWX := Lib.hid (HXW.out x (List.mem_of_getElem? hx))
      obtain ⟨g, o, rfl, hg, e0⟩ := HX.out.at hx
      have HT := Lib.hid (HTK.out x hx)
      have hg5 := Nat.lt_of_lt_of_le hg HB.out.size
      have e1 := cell_in HB.out hg e0
      have e00 := e0
      obtain ⟨aN, cN, rfl⟩ := HR.out.ownN.form
      have e2 := HR.out.c2
      have hrl := HR.out.lt
      have hk0 : (0 : Int) ≤ (k : Int) := by omega
      have hk1 : (k : Int) < (X.length : Int) := by omega
      have hdx : ((k : Int) == (X.length : Int)) = false := by simp; omega
      have hq4 : (hasN N x != hasN N x) = false := bne_self_eq_false _
      have hq5 : (addB l P N x != addB l P N x) = false := bne_self_eq_false _
      clear hx e0 hq1 hq2 hq3 HTK
      go_wp2
      refine wp_region_held_drew (S := fun w' => w'.cell? ⟨g, o + k, none⟩ = some (.int .i64 x)) (by kernel_rfl) e1 (fun hHeld => ?_)
      refine wpAnyH_take (i := 0) (oi := { dst := some 79, op := Op.move (Operand.tmp 7), type := 26, pos := "law.go:52", after := #[], guard := none }) (v := ?_) rfl (by kernel_rfl) (by kernel_rfl) (by kernel_rfl) (fun _ _ _ h => h) (Or.inl ⟨by rfl, ?_⟩) (by assumption) ?_
      rotate_left
      · intro w hSw
        try dsimp only at hSw
        go_simp
        try with_reducible rfl
      try simp only [Act.put, List.setIfInBounds_toArray, List.set_cons_zero, List.set_cons_succ]
      refine wpAnyH_take (i := 1) (oi := { dst := some 80, op := Op.move (Operand.tmp 2), type := 23, pos := "law.go:52", after := #[], guard := none }) (v := ?_) rfl (by kernel_rfl) (by kernel_rfl) (by kernel_rfl) (fun _ _ _ h => h) (Or.inl ⟨by rfl, ?_⟩) (by assumption) ?_
      rotate_left
      · intro w hSw
        try dsimp only at hSw
        go_simp
        try with_reducible rfl
      try simp only [Act.put, List.setIfInBounds_toArray, List.set_cons_zero, List.set_cons_succ]
      refine wpAnyH_take (i := 2) (oi := { dst := some 81, op := Op.move (Operand.tmp 9), type := 3, pos := "law.go:52", after := #[], guard := none }) (v := ?_) rfl (by kernel_rfl) (by kernel_rfl) (by kernel_rfl) (fun _ _ _ h => h) (Or.inl ⟨by rfl, ?_⟩) (by assumption) ?_
      rotate_left
      · intro w hSw
        try dsimp only at hSw
        go_simp
        try with_reducible rfl
      try simp only [Act.put, List.setIfInBounds_toArray, List.set_cons_zero, List.set_cons_succ]
      refine wpAnyH_take (i := 3) (oi := { dst := some 82, op := Op.indexAddr 23 (Operand.tmp 80) (Operand.tmp 81), type := 0, pos := "law.go:52", after := #[{ on := 1, ground := Ground.data }, { on := 2, ground := Ground.data }], guard := none }) (v := ?_) rfl (by kernel_rfl) (by kernel_rfl) (by kernel_rfl) (fun _ _ _ h => h) (Or.inl ⟨by rfl, ?_⟩) (by assumption) ?_
      rotate_left
      · intro w hSw
        try dsimp only at hSw
        go_simp
        try with_reducible rfl
      try simp only [Act.put, List.setIfInBounds_toArray, List.set_cons_zero, List.set_cons_succ]
      refine wpAnyH_take (i := 4) (oi := { dst := some 83, op := Op.load 3 (Operand.tmp 82), type := 3, pos := "law.go:52", after := #[{ on := 3, ground := Ground.data }], guard := none }) (v := ?_) rfl (by kernel_rfl) (by kernel_rfl) (by kernel_rfl) (fun _ _ _ h => h) (Or.inl ⟨by rfl, ?_⟩) (by assumption) ?_
      rotate_left
      · intro w hSw
        try dsimp only at hSw
        go_simp
        try with_reducible rfl
      try simp only [Act.put, List.setIfInBounds_toArray, List.set_cons_zero, List.set_cons_succ]
      refine wpAnyH_take (i := 6) (oi := { dst := some 85, op := Op.move (Operand.tmp 8), type := 28, pos := "law.go:52", after := #[], guard := none }) (v := ?_) rfl (by kernel_rfl) (by kernel_rfl) (by kernel_rfl) (fun _ _ _ h => h) (Or.inl ⟨by rfl, ?_⟩) (by assumption) ?_
      rotate_left
      · intro w hSw
        try dsimp only at hSw
        go_simp
        try with_reducible rfl
      try simp only [Act.put, List.setIfInBounds_toArray, List.set_cons_zero, List.set_cons_succ]
      refine wpAnyH_take (i := 7) (oi := { dst := some 86, op := Op.nilCheck (Operand.tmp 85), type := 0, pos := "law.go:52", after := #[{ on := 6, ground := Ground.data }], guard := none }) (v := ?_) rfl (by kernel_rfl) (by kernel_rfl) (by kernel_rfl) (fun _ _ _ h => h) (Or.inl ⟨by rfl, ?_⟩) (by assumption) ?_
      rotate_left
      · intro w hSw
        try dsimp only at hSw
        go_simp
        try with_reducible rfl
      try simp only [Act.put, List.setIfInBounds_toArray, List.set_cons_zero, List.set_cons_succ]
      refine wpAnyH_take (i := 8) (oi := { dst := some 87, op := Op.fieldAddr 35 (Operand.tmp 86) 2, type := 0, pos := "law.go:52", after := #[{ on := 7, ground := Ground.data }], guard := none }) (v := ?_) rfl (by kernel_rfl) (by kernel_rfl) (by kernel_rfl) (fun _ _ _ h => h) (Or.inl ⟨by rfl, ?_⟩) (by assumption) ?_
      rotate_left
      · intro w hSw
        try dsimp only at hSw
        go_simp
        try with_reducible rfl
      try simp only [Act.put, List.setIfInBounds_toArray, List.set_cons_zero, List.set_cons_succ]
      refine wpAnyH_take (i := 10) (oi := { dst := some 89, op := Op.move (Operand.tmp 2), type := 23, pos := "law.go:52", after := #[], guard := none }) (v := ?_) rfl (by kernel_rfl) (by kernel_rfl) (by kernel_rfl) (fun _ _ _ h => h) (Or.inl ⟨by rfl, ?_⟩) (by assumption) ?_
      rotate_left
      · intro w hSw
        try dsimp only at hSw
        go_simp
        try with_reducible rfl
      try simp only [Act.put, List.setIfInBounds_toArray, List.set_cons_zero, List.set_cons_succ]
      refine wpAnyH_take (i := 11) (oi := { dst := some 90, op := Op.move (Operand.tmp 9), type := 3, pos := "law.go:52", after := #[], guard := none }) (v := ?_) rfl (by kernel_rfl) (by kernel_rfl) (by kernel_rfl) (fun _ _ _ h => h) (Or.inl ⟨by rfl, ?_⟩) (by assumption) ?_
      rotate_left
      · intro w hSw
        try dsimp only at hSw
        go_simp
        try with_reducible rfl
      try simp only [Act.put, List.setIfInBounds_toArray, List.set_cons_zero, List.set_cons_succ]
      refine wpAnyH_take (i := 12) (oi := { dst := some 91, op := Op.indexAddr 23 (Operand.tmp 89) (Operand.tmp 90), type := 0, pos := "law.go:52", after := #[{ on := 10, ground := Ground.data }, { on := 11, ground := Ground.data }], guard := none }) (v := ?_) rfl (by kernel_rfl) (by kernel_rfl) (by kernel_rfl) (fun _ _ _ h => h) (Or.inl ⟨by rfl, ?_⟩) (by assumption) ?_
      rotate_left
      · intro w hSw
        try dsimp only at hSw
        go_simp
        try with_reducible rfl
      try simp only [Act.put, List.setIfInBounds_toArray, List.set_cons_zero, List.set_cons_succ]
      refine wpAnyH_take (i := 13) (oi := { dst := some 92, op := Op.load 3 (Operand.tmp 91), type := 3, pos := "law.go:52", after := #[{ on := 12, ground := Ground.data }], guard := none }) (v := ?_) rfl (by kernel_rfl) (by kernel_rfl) (by kernel_rfl) (fun _ _ _ h => h) (Or.inl ⟨by rfl, ?_⟩) (by assumption) ?_
      rotate_left
      · intro w hSw
        try dsimp only at hSw
        go_simp
        try with_reducible rfl
      try simp only [Act.put, List.setIfInBounds_toArray, List.set_cons_zero, List.set_cons_succ]
      refine wpAnyH_ready (rs := [5, 9]) (by kernel_rfl) (by simp) ?_
      refine AllReadyH.cons (o := { dst := some 84, op := Op.call { callee := Callee.value (Operand.func 24), args := #[Operand.tmp 79, Operand.tmp 83], argTypes := #[26, 3] }, type := 4, pos := "law.go:52", after := #[{ on := 0, ground := Ground.data }, { on := 4, ground := Ground.data }], guard := none }) rfl (fun K hK => ?_) ?_
      · go_simp
        go_at_call 24
        refine (TC.has x HWX.out HN1.out (TC.later HP.out (by repeat (first | exact Below.refl _ _ | refine blQ5 ?_ _ | refine Below.drew ?_)))).mono ?_
        rintro e w6 ⟨rfl, hb⟩
        replace hb : Below w5.heap.size w5 w6 := blThen (by repeat (first | exact Below.refl _ _ | refine blQ5 ?_ _ | refine Below.drew ?_)) hb
        have HP1 := Lib.hid (TC.later HP.out hb)
        have HR1 := Lib.hid (HR.out.later hb)
        have f1 := cell_in hb hg5 e1
        have f2 := HR1.out.c2
        have HB1 := Lib.hid (blThen HB.out hb)
        have hrl1 := HR1.out.lt
        clear hb
        refine hK.out _ _ f1 (fun hHeld => ?_)
        clear hK K
        try simp only [Act.put, List.setIfInBounds_toArray, List.set_cons_zero, List.set_cons_succ]
        refine wpAnyH_ready (rs := [9]) (by kernel_rfl) (by simp) ?_
        refine AllReadyH.cons (o := { dst := some 88, op := Op.load 23 (Operand.tmp 87), type := 23, pos := "law.go:52", after := #[{ on := 8, ground := Ground.data }], guard := none }) rfl (fun K hK => ?_) ?_
        rotate_left
        · exact AllReadyH.nil
        go_simp
        refine hK.out _ _ f1 (fun hHeld => ?_)
        clear hK K
        try simp only [Act.put, List.setIfInBounds_toArray, List.set_cons_zero, List.set_cons_succ]
        refine wpAnyH_ready (rs := [14]) (by kernel_rfl) (by simp) ?_
        refine AllReadyH.cons (o := { dst := some 93, op := Op.call { callee := Callee.value (Operand.func 25), args := #[Operand.tmp 88, Operand.tmp 92], argTypes := #[23, 3] }, type := 4, pos := "law.go:52", after := #[{ on := 9, ground := Ground.data }, { on := 13, ground := Ground.data }, { on := 5, ground := Ground.chain }], guard := none }) rfl (fun K hK => ?_) ?_
        rotate_left
        · exact AllReadyH.nil
        go_simp
        go_at_call 25
        refine (refin_i _ _ N x _ HN6.out HR1.out.ownN.at).mono ?_
        rintro e w7 ⟨rfl, rfl⟩
        refine hK.out _ _ f1 (fun hHeld => ?_)
        clear hK K
        try simp only [Act.put, List.setIfInBounds_toArray, List.set_cons_zero, List.set_cons_succ]
        refine wpAnyH_take (i := 15) (oi := { dst := some 94, op := Op.binOp BinOp.neq 4 (Operand.tmp 84) (Operand.tmp 93) 4, type := 4, pos := "law.go:52", after := #[{ on := 5, ground := Ground.data }, { on := 14, ground := Ground.data }], guard := none }) (v := ?_) rfl (by kernel_rfl) (by kernel_rfl) (by kernel_rfl) (fun _ _ _ h => h) (Or.inl ⟨by rfl, ?_⟩) (by assumption) ?_
        rotate_left
        · intro w hSw
          try dsimp only at hSw
          go_simp
          try with_reducible rfl
        try simp only [Act.put, List.setIfInBounds_toArray, List.set_cons_zero, List.set_cons_succ]
        refine wpAnyH_take (i := 16) (oi := { dst := some 95, op := Op.move (Operand.tmp 94), type := 4, pos := "law.go:52", after := #[{ on := 15, ground := Ground.data }, { on := 14, ground := Ground.chain }], guard := none }) (v := ?_) rfl (by kernel_rfl) (by kernel_rfl) (by kernel_rfl) (fun _ _ _ h => h) (Or.inl ⟨by rfl, ?_⟩) (by assumption) ?_
        rotate_left
        · intro w hSw
          try dsimp only at hSw
          go_simp
          try with_reducible rfl
        try simp only [Act.put, List.setIfInBounds_toArray, List.set_cons_zero, List.set_cons_succ]
        refine wpAnyH_take (i := 17) (oi := { dst := some 96, op := Op.move (Operand.tmp 7), type := 26, pos := "law.go:52", after := #[{ on := 16, ground := Ground.guard }], guard := some (16, false) }) (v := ?_) rfl (by kernel_rfl) (by kernel_rfl) (by kernel_rfl) (fun _ _ _ h => h) (Or.inl ⟨by rfl, ?_⟩) (by assumption) ?_
        rotate_left
        · intro w hSw
          try dsimp only at hSw
          go_simp
          try with_reducible rfl
        try simp only [Act.put, List.setIfInBounds_toArray, List.set_cons_zero, List.set_cons_succ]
        refine wpAnyH_take (i := 18) (oi := { dst := some 97, op := Op.move (Operand.tmp 2), type := 23, pos := "law.go:52", after := #[{ on := 16, ground := Ground.guard }], guard := some (16, false) }) (v := ?_) rfl (by kernel_rfl) (by kernel_rfl) (by kernel_rfl) (fun _ _ _ h => h) (Or.inl ⟨by rfl, ?_⟩) (by assumption) ?_
        rotate_left
        · intro w hSw
          try dsimp only at hSw
          go_simp
          try with_reducible rfl
        try simp only [Act.put, List.setIfInBounds_toArray, List.set_cons_zero, List.set_cons_succ]
        refine wpAnyH_take (i := 19) (oi := { dst := some 98, op := Op.move (Operand.tmp 9), type := 3, pos := "law.go:52", after := #[{ on := 16, ground := Ground.guard }], guard := some (16, false) }) (v := ?_) rfl (by kernel_rfl) (by kernel_rfl) (by kernel_rfl) (fun _ _ _ h => h) (Or.inl ⟨by rfl, ?_⟩) (by assumption) ?_
        rotate_left
        · intro w hSw
          try dsimp only at hSw
          go_simp
          try with_reducible rfl
        try simp only [Act.put, List.setIfInBounds_toArray, List.set_cons_zero, List.set_cons_succ]
        refine wpAnyH_take (i := 20) (oi := { dst := some 99, op := Op.indexAddr 23 (Operand.tmp 97) (Operand.tmp 98), type := 0, pos := "law.go:52", after := #[{ on := 18, ground := Ground.data }, { on := 19, ground := Ground.data }, { on := 16, ground := Ground.guard }], guard := some (16, false) }) (v := ?_) rfl (by kernel_rfl) (by kernel_rfl) (by kernel_rfl) (fun _ _ _ h => h) (Or.inl ⟨by rfl, ?_⟩) (by assumption) ?_
        rotate_left
        · intro w hSw
          try dsimp only at hSw
          go_simp
          try with_reducible rfl
        try simp only [Act.put, List.setIfInBounds_toArray, List.set_cons_zero, List.set_cons_succ]
        refine wpAnyH_take (i := 21) (oi := { dst := some 100, op := Op.load 3 (Operand.tmp 99), type := 3, pos := "law.go:52", after := #[{ on := 20, ground := Ground.data }, { on := 16, ground := Ground.guard }], guard := some (16, false) }) (v := ?_) rfl (by kernel_rfl) (by kernel_rfl) (by kernel_rfl) (fun _ _ _ h => h) (Or.inl ⟨by rfl, ?_⟩) (by assumption) ?_
        rotate_left
        · intro w hSw
          try dsimp only at hSw
          go_simp
          try with_reducible rfl
        try simp only [Act.put, List.setIfInBounds_toArray, List.set_cons_zero, List.set_cons_succ]
        refine wpAnyH_take (i := 23) (oi := { dst := some 102, op := Op.move (Operand.tmp 8), type := 28, pos := "law.go:52", after := #[{ on := 16, ground := Ground.guard }], guard := some (16, false) }) (v := ?_) rfl (by kernel_rfl) (by kernel_rfl) (by kernel_rfl) (fun _ _ _ h => h) (Or.inl ⟨by rfl, ?_⟩) (by assumption) ?_
        rotate_left
        · intro w hSw
          try dsimp only at hSw
          go_simp
          try with_reducible rfl
        try simp only [Act.put, List.setIfInBounds_toArray, List.set_cons_zero, List.set_cons_succ]
        refine wpAnyH_take (i := 24) (oi := { dst := some 103, op := Op.move (Operand.tmp 2), type := 23, pos := "law.go:52", after := #[{ on := 16, ground := Ground.guard }], guard := some (16, false) }) (v := ?_) rfl (by kernel_rfl) (by kernel_rfl) (by kernel_rfl) (fun _ _ _ h => h) (Or.inl ⟨by rfl, ?_⟩) (by assumption) ?_
        rotate_left
        · intro w hSw
          try dsimp only at hSw
          go_simp
          try with_reducible rfl
        try simp only [Act.put, List.setIfInBounds_toArray, List.set_cons_zero, List.set_cons_succ]
        refine wpAnyH_take (i := 25) (oi := { dst := some 104, op := Op.move (Operand.tmp 9), type := 3, pos := "law.go:52", after := #[{ on := 16, ground := Ground.guard }], guard := some (16, false) }) (v := ?_) rfl (by kernel_rfl) (by kernel_rfl) (by kernel_rfl) (fun _ _ _ h => h) (Or.inl ⟨by rfl, ?_⟩) (by assumption) ?_
        rotate_left
        · intro w hSw
          try dsimp only at hSw
          go_simp
          try with_reducible rfl
        try simp only [Act.put, List.setIfInBounds_toArray, List.set_cons_zero, List.set_cons_succ]
        refine wpAnyH_take (i := 26) (oi := { dst := some 105, op := Op.indexAddr 23 (Operand.tmp 103) (Operand.tmp 104), type := 0, pos := "law.go:52", after := #[{ on := 24, ground := Ground.data }, { on := 25, ground := Ground.data }, { on := 16, ground := Ground.guard }], guard := some (16, false) }) (v := ?_) rfl (by kernel_rfl) (by kernel_rfl) (by kernel_rfl) (fun _ _ _ h => h) (Or.inl ⟨by rfl, ?_⟩) (by assumption) ?_
        rotate_left
        · intro w hSw
          try dsimp only at hSw
          go_simp
          try with_reducible rfl
        try simp only [Act.put, List.setIfInBounds_toArray, List.set_cons_zero, List.set_cons_succ]
        refine wpAnyH_take (i := 27) (oi := { dst := some 106, op := Op.load 3 (Operand.tmp 105), type := 3, pos := "law.go:52", after := #[{ on := 26, ground := Ground.data }, { on := 16, ground := Ground.guard }], guard := some (16, false) }) (v := ?_) rfl (by kernel_rfl) (by kernel_rfl) (by kernel_rfl) (fun _ _ _ h => h) (Or.inl ⟨by rfl, ?_⟩) (by assumption) ?_
        rotate_left
        · intro w hSw
          try dsimp only at hSw
          go_simp
          try with_reducible rfl
        try simp only [Act.put, List.setIfInBounds_toArray, List.set_cons_zero, List.set_cons_succ]
        refine wpAnyH_ready (rs := [22]) (by kernel_rfl) (by simp) ?_
        refine AllReadyH.cons (o := { dst := some 101, op := Op.call { callee := Callee.value (Operand.func 26), args := #[Operand.tmp 96, Operand.tmp 100], argTypes := #[26, 3] }, type := 4, pos := "law.go:52", after := #[{ on := 17, ground := Ground.data }, { on := 21, ground := Ground.data }, { on := 16, ground := Ground.chain }, { on := 16, ground := Ground.guard }], guard := some (16, false) }) rfl (fun K hK => ?_) ?_
        rotate_left
        · exact AllReadyH.nil
        go_simp
        go_at_call 26
        refine (TC.add x HWX.out HN1.out HP1.out).mono ?_
        rintro e w8 ⟨F2, rfl, hp, hk2, hn⟩
        have HR2 := Lib.hid (HR1.out.keep hk2 (fun x hx => (TC.sep HP1.out x hx).1) (fun x hx hs => HD.out x hs hx))
        have HD2 : Hid (∀ x, F2 x → ¬ footR rb vP (.slice aN N.length cN) x) := fun x hx hs => (hn x hx).elim (fun h => HD.out x h hs) (fun h => Nat.lt_irrefl _ (Nat.lt_of_lt_of_le (rt_sep HR1.out x hs).2 h))
        have hb8 := hk2.below HB1.out.size (fun x hx hs => by have := (TC.sep HP1.out x hs).1; omega)
        have HB2 := Lib.hid (HB1.out.trans hb8)
        have g1 : w8.cell? ⟨g, o + k, none⟩ = some (.int .i64 x) := cell_in HB2.out hg e00
        have HP2 := Lib.hid hp
        clear hp hk2 hn hb8
        refine hK.out _ _ g1 (fun hHeld => ?_)
        clear hK K
        try simp only [Act.put, List.setIfInBounds_toArray, List.set_cons_zero, List.set_cons_succ]
        refine wpAnyH_ready (rs := [28]) (by kernel_rfl) (by simp) ?_
        refine AllReadyH.cons (o := { dst := some 107, op := Op.call { callee := Callee.value (Operand.func 27), args := #[Operand.tmp 102, Operand.tmp 106], argTypes := #[28, 3] }, type := 4, pos := "law.go:52", after := #[{ on := 23, ground := Ground.data }, { on := 27, ground := Ground.data }, { on := 22, ground := Ground.chain }, { on := 16, ground := Ground.guard }], guard := some (16, false) }) rfl (fun K hK => ?_) ?_
        rotate_left
        · exact AllReadyH.nil
        go_simp
        go_at_call 27
        refine (refadd_any _ _ _ _ _ l P N _ _ x H8.out HP6.out HN6.out HN5.out HR2.out).mono ?_
        rintro e w9 ⟨vN2, rfl, hr, hs⟩
        have HP3 := Lib.hid (TC.keep HP2.out hs.keeps (fun x hx => HR2.out.fresh x hx) (fun x hx hs => HD2.out x hx hs))
        have HD3 : Hid (∀ x, F2 x → ¬ footR rb vP vN2 x) := fun x hx hf => (hs.new x hf).elim (fun h => HD2.out x hx h) (fun h => Nat.lt_irrefl _ (Nat.lt_of_lt_of_le (TC.sep HP2.out x hx).2 h))
        have hb9 := hs.keeps.below HB2.out.size (fun x hx hs => by have := HR2.out.fresh x hs; omega)
        have HB3 := Lib.hid (HB2.out.trans hb9)
        have i1 : w9.cell? ⟨g, o + k, none⟩ = some (.int .i64 x) := cell_in HB3.out hg e00
        have HR3 := Lib.hid hr
        clear hr hs hb9
        refine hK.out _ _ i1 (fun hHeld => ?_)
        clear hK K
        try simp only [Act.put, List.setIfInBounds_toArray, List.set_cons_zero, List.set_cons_succ]
        refine wpAnyH_take (i := 29) (oi := { dst := some 108, op := Op.binOp BinOp.neq 4 (Operand.tmp 101) (Operand.tmp 107) 4, type := 4, pos := "law.go:52", after := #[{ on := 22, ground := Ground.data }, { on := 28, ground := Ground.data }, { on := 16, ground := Ground.guard }], guard := some (16, false) }) (v := ?_) rfl (by kernel_rfl) (by kernel_rfl) (by kernel_rfl) (fun _ _ _ h => h) (Or.inl ⟨by rfl, ?_⟩) (by assumption) ?_
        rotate_left
        · intro w hSw
          try dsimp only at hSw
          go_simp
          try with_reducible rfl
        try simp only [Act.put, List.setIfInBounds_toArray, List.set_cons_zero, List.set_cons_succ]
        refine wpAnyH_take (i := 30) (oi := { dst := some 109, op := Op.pick (Operand.tmp 95) (Operand.const (Value.bool true)) (Operand.tmp 108), type := 4, pos := "law.go:52", after := #[{ on := 16, ground := Ground.data }, { on := 29, ground := Ground.data }], guard := none }) (v := ?_) rfl (by kernel_rfl) (by kernel_rfl) (by kernel_rfl) (fun _ _ _ h => h) (Or.inl ⟨by rfl, ?_⟩) (by assumption) ?_
        rotate_left
        · intro w hSw
          try dsimp only at hSw
          go_simp
          try with_reducible rfl
        try simp only [Act.put, List.setIfInBounds_toArray, List.set_cons_zero, List.set_cons_succ]
        refine wpAnyH_done (by kernel_rfl) ?_ _
        go_wp2
        go_roundw
        case rel => exact ⟨k + 1, F2, vP, vN2, hlt, by go_num, by rw [HT.out]; exact HP3.out, by rw [HT.out]; exact HR3.out, HB3.out, HD3.out⟩
        case measure => simp [intOf]; omega
      refine AllReadyH.cons (o := { dst := some 88, op := Op.load 23 (Operand.tmp 87), type := 23, pos := "law.go:52", after := #[{ on := 8, ground := Ground.data }], guard := none }) rfl (fun K hK => ?_) ?_
      · go_simp
        refine hK.out _ _ hHeld (fun hHeld => ?_)
        clear hK K
        try simp only [Act.put, List.setIfInBounds_toArray, List.set_cons_zero, List.set_cons_succ]
        refine wpAnyH_ready (rs := [5]) (by kernel_rfl) (by simp) ?_
        refine AllReadyH.cons (o := { dst := some 84, op := Op.call { callee := Callee.value (Operand.func 24), args := #[Operand.tmp 79, Operand.tmp 83], argTypes := #[26, 3] }, type := 4, pos := "law.go:52", after := #[{ on := 0, ground := Ground.data }, { on := 4, ground := Ground.data }], guard := none }) rfl (fun K hK => ?_) ?_
        rotate_left
        · exact AllReadyH.nil
        go_simp
        go_at_call 24
        refine (TC.has x HWX.out HN1.out (TC.later HP.out (by repeat (first | exact Below.refl _ _ | refine blQ5 ?_ _ | refine Below.drew ?_)))).mono ?_
        rintro e w6 ⟨rfl, hb⟩
        replace hb : Below w5.heap.size w5 w6 := blThen (by repeat (first | exact Below.refl _ _ | refine blQ5 ?_ _ | refine Below.drew ?_)) hb
        have HP1 := Lib.hid (TC.later HP.out hb)
        have HR1 := Lib.hid (HR.out.later hb)
        have f1 := cell_in hb hg5 e1
        have f2 := HR1.out.c2
        have HB1 := Lib.hid (blThen HB.out hb)
        have hrl1 := HR1.out.lt
        clear hb
        refine hK.out _ _ f1 (fun hHeld => ?_)
        clear hK K
        try simp only [Act.put, List.setIfInBounds_toArray, List.set_cons_zero, List.set_cons_succ]
        refine wpAnyH_ready (rs := [14]) (by kernel_rfl) (by simp) ?_
        refine AllReadyH.cons (o := { dst := some 93, op := Op.call { callee := Callee.value (Operand.func 25), args := #[Operand.tmp 88, Operand.tmp 92], argTypes := #[23, 3] }, type := 4, pos := "law.go:52", after := #[{ on := 9, ground := Ground.data }, { on := 13, ground := Ground.data }, { on := 5, ground := Ground.chain }], guard := none }) rfl (fun K hK => ?_) ?_
        rotate_left
        · exact AllReadyH.nil
        go_simp
        go_at_call 25
        refine (refin_i _ _ N x _ HN6.out HR1.out.ownN.at).mono ?_
        rintro e w7 ⟨rfl, rfl⟩
        refine hK.out _ _ f1 (fun hHeld => ?_)
        clear hK K
        try simp only [Act.put, List.setIfInBounds_toArray, List.set_cons_zero, List.set_cons_succ]
        refine wpAnyH_take (i := 15) (oi := { dst := some 94, op := Op.binOp BinOp.neq 4 (Operand.tmp 84) (Operand.tmp 93) 4, type := 4, pos := "law.go:52", after := #[{ on := 5, ground := Ground.data }, { on := 14, ground := Ground.data }], guard := none }) (v := ?_) rfl (by kernel_rfl) (by kernel_rfl) (by kernel_rfl) (fun _ _ _ h => h) (Or.inl ⟨by rfl, ?_⟩) (by assumption) ?_
        rotate_left
        · intro w hSw
          try dsimp only at hSw
          go_simp
          try with_reducible rfl
        try simp only [Act.put, List.setIfInBounds_toArray, List.set_cons_zero, List.set_cons_succ]
        refine wpAnyH_take (i := 16) (oi := { dst := some 95, op := Op.move (Operand.tmp 94), type := 4, pos := "law.go:52", after := #[{ on := 15, ground := Ground.data }, { on := 14, ground := Ground.chain }], guard := none }) (v := ?_) rfl (by kernel_rfl) (by kernel_rfl) (by kernel_rfl) (fun _ _ _ h => h) (Or.inl ⟨by rfl, ?_⟩) (by assumption) ?_
        rotate_left
        · intro w hSw
          try dsimp only at hSw
          go_simp
          try with_reducible rfl
        try simp only [Act.put, List.setIfInBounds_toArray, List.set_cons_zero, List.set_cons_succ]
        refine wpAnyH_take (i := 17) (oi := { dst := some 96, op := Op.move (Operand.tmp 7), type := 26, pos := "law.go:52", after := #[{ on := 16, ground := Ground.guard }], guard := some (16, false) }) (v := ?_) rfl (by kernel_rfl) (by kernel_rfl) (by kernel_rfl) (fun _ _ _ h => h) (Or.inl ⟨by rfl, ?_⟩) (by assumption) ?_
        rotate_left
        · intro w hSw
          try dsimp only at hSw
          go_simp
          try with_reducible rfl
        try simp only [Act.put, List.setIfInBounds_toArray, List.set_cons_zero, List.set_cons_succ]
        refine wpAnyH_take (i := 18) (oi := { dst := some 97, op := Op.move (Operand.tmp 2), type := 23, pos := "law.go:52", after := #[{ on := 16, ground := Ground.guard }], guard := some (16, false) }) (v := ?_) rfl (by kernel_rfl) (by kernel_rfl) (by kernel_rfl) (fun _ _ _ h => h) (Or.inl ⟨by rfl, ?_⟩) (by assumption) ?_
        rotate_left
        · intro w hSw
          try dsimp only at hSw
          go_simp
          try with_reducible rfl
        try simp only [Act.put, List.setIfInBounds_toArray, List.set_cons_zero, List.set_cons_succ]
        refine wpAnyH_take (i := 19) (oi := { dst := some 98, op := Op.move (Operand.tmp 9), type := 3, pos := "law.go:52", after := #[{ on := 16, ground := Ground.guard }], guard := some (16, false) }) (v := ?_) rfl (by kernel_rfl) (by kernel_rfl) (by kernel_rfl) (fun _ _ _ h => h) (Or.inl ⟨by rfl, ?_⟩) (by assumption) ?_
        rotate_left
        · intro w hSw
          try dsimp only at hSw
          go_simp
          try with_reducible rfl
        try simp only [Act.put, List.setIfInBounds_toArray, List.set_cons_zero, List.set_cons_succ]
        refine wpAnyH_take (i := 20) (oi := { dst := some 99, op := Op.indexAddr 23 (Operand.tmp 97) (Operand.tmp 98), type := 0, pos := "law.go:52", after := #[{ on := 18, ground := Ground.data }, { on := 19, ground := Ground.data }, { on := 16, ground := Ground.guard }], guard := some (16, false) }) (v := ?_) rfl (by kernel_rfl) (by kernel_rfl) (by kernel_rfl) (fun _ _ _ h => h) (Or.inl ⟨by rfl, ?_⟩) (by assumption) ?_
        rotate_left
        · intro w hSw
          try dsimp only at hSw
          go_simp
          try with_reducible rfl
        try simp only [Act.put, List.setIfInBounds_toArray, List.set_cons_zero, List.set_cons_succ]
        refine wpAnyH_take (i := 21) (oi := { dst := some 100, op := Op.load 3 (Operand.tmp 99), type := 3, pos := "law.go:52", after := #[{ on := 20, ground := Ground.data }, { on := 16, ground := Ground.guard }], guard := some (16, false) }) (v := ?_) rfl (by kernel_rfl) (by kernel_rfl) (by kernel_rfl) (fun _ _ _ h => h) (Or.inl ⟨by rfl, ?_⟩) (by assumption) ?_
        rotate_left
        · intro w hSw
          try dsimp only at hSw
          go_simp
          try with_reducible rfl
        try simp only [Act.put, List.setIfInBounds_toArray, List.set_cons_zero, List.set_cons_succ]
        refine wpAnyH_take (i := 23) (oi := { dst := some 102, op := Op.move (Operand.tmp 8), type := 28, pos := "law.go:52", after := #[{ on := 16, ground := Ground.guard }], guard := some (16, false) }) (v := ?_) rfl (by kernel_rfl) (by kernel_rfl) (by kernel_rfl) (fun _ _ _ h => h) (Or.inl ⟨by rfl, ?_⟩) (by assumption) ?_
        rotate_left
        · intro w hSw
          try dsimp only at hSw
          go_simp
          try with_reducible rfl
        try simp only [Act.put, List.setIfInBounds_toArray, List.set_cons_zero, List.set_cons_succ]
        refine wpAnyH_take (i := 24) (oi := { dst := some 103, op := Op.move (Operand.tmp 2), type := 23, pos := "law.go:52", after := #[{ on := 16, ground := Ground.guard }], guard := some (16, false) }) (v := ?_) rfl (by kernel_rfl) (by kernel_rfl) (by kernel_rfl) (fun _ _ _ h => h) (Or.inl ⟨by rfl, ?_⟩) (by assumption) ?_
        rotate_left
        · intro w hSw
          try dsimp only at hSw
          go_simp
          try with_reducible rfl
        try simp only [Act.put, List.setIfInBounds_toArray, List.set_cons_zero, List.set_cons_succ]
        refine wpAnyH_take (i := 25) (oi := { dst := some 104, op := Op.move (Operand.tmp 9), type := 3, pos := "law.go:52", after := #[{ on := 16, ground := Ground.guard }], guard := some (16, false) }) (v := ?_) rfl (by kernel_rfl) (by kernel_rfl) (by kernel_rfl) (fun _ _ _ h => h) (Or.inl ⟨by rfl, ?_⟩) (by assumption) ?_
        rotate_left
        · intro w hSw
          try dsimp only at hSw
          go_simp
          try with_reducible rfl
        try simp only [Act.put, List.setIfInBounds_toArray, List.set_cons_zero, List.set_cons_succ]
        refine wpAnyH_take (i := 26) (oi := { dst := some 105, op := Op.indexAddr 23 (Operand.tmp 103) (Operand.tmp 104), type := 0, pos := "law.go:52", after := #[{ on := 24, ground := Ground.data }, { on := 25, ground := Ground.data }, { on := 16, ground := Ground.guard }], guard := some (16, false) }) (v := ?_) rfl (by kernel_rfl) (by kernel_rfl) (by kernel_rfl) (fun _ _ _ h => h) (Or.inl ⟨by rfl, ?_⟩) (by assumption) ?_
        rotate_left
        · intro w hSw
          try dsimp only at hSw
          go_simp
          try with_reducible rfl
        try simp only [Act.put, List.setIfInBounds_toArray, List.set_cons_zero, List.set_cons_succ]
        refine wpAnyH_take (i := 27) (oi := { dst := some 106, op := Op.load 3 (Operand.tmp 105), type := 3, pos := "law.go:52", after := #[{ on := 26, ground := Ground.data }, { on := 16, ground := Ground.guard }], guard := some (16, false) }) (v := ?_) rfl (by kernel_rfl) (by kernel_rfl) (by kernel_rfl) (fun _ _ _ h => h) (Or.inl ⟨by rfl, ?_⟩) (by assumption) ?_
        rotate_left
        · intro w hSw
          try dsimp only at hSw
          go_simp
          try with_reducible rfl
        try simp only [Act.put, List.setIfInBounds_toArray, List.set_cons_zero, List.set_cons_succ]
        refine wpAnyH_ready (rs := [22]) (by kernel_rfl) (by simp) ?_
        refine AllReadyH.cons (o := { dst := some 101, op := Op.call { callee := Callee.value (Operand.func 26), args := #[Operand.tmp 96, Operand.tmp 100], argTypes := #[26, 3] }, type := 4, pos := "law.go:52", after := #[{ on := 17, ground := Ground.data }, { on := 21, ground := Ground.data }, { on := 16, ground := Ground.chain }, { on := 16, ground := Ground.guard }], guard := some (16, false) }) rfl (fun K hK => ?_) ?_
        rotate_left
        · exact AllReadyH.nil
        go_simp
        go_at_call 26
        refine (TC.add x HWX.out HN1.out HP1.out).mono ?_
        rintro e w8 ⟨F2, rfl, hp, hk2, hn⟩
        have HR2 := Lib.hid (HR1.out.keep hk2 (fun x hx => (TC.sep HP1.out x hx).1) (fun x hx hs => HD.out x hs hx))
        have HD2 : Hid (∀ x, F2 x → ¬ footR rb vP (.slice aN N.length cN) x) := fun x hx hs => (hn x hx).elim (fun h => HD.out x h hs) (fun h => Nat.lt_irrefl _ (Nat.lt_of_lt_of_le (rt_sep HR1.out x hs).2 h))
        have hb8 := hk2.below HB1.out.size (fun x hx hs => by have := (TC.sep HP1.out x hs).1; omega)
        have HB2 := Lib.hid (HB1.out.trans hb8)
        have g1 : w8.cell? ⟨g, o + k, none⟩ = some (.int .i64 x) := cell_in HB2.out hg e00
        have HP2 := Lib.hid hp
        clear hp hk2 hn hb8
        refine hK.out _ _ g1 (fun hHeld => ?_)
        clear hK K
        try simp only [Act.put, List.setIfInBounds_toArray, List.set_cons_zero, List.set_cons_succ]
        refine wpAnyH_ready (rs := [28]) (by kernel_rfl) (by simp) ?_
        refine AllReadyH.cons (o := { dst := some 107, op := Op.call { callee := Callee.value (Operand.func 27), args := #[Operand.tmp 102, Operand.tmp 106], argTypes := #[28, 3] }, type := 4, pos := "law.go:52", after := #[{ on := 23, ground := Ground.data }, { on := 27, ground := Ground.data }, { on := 22, ground := Ground.chain }, { on := 16, ground := Ground.guard }], guard := some (16, false) }) rfl (fun K hK => ?_) ?_
        rotate_left
        · exact AllReadyH.nil
        go_simp
        go_at_call 27
        refine (refadd_any _ _ _ _ _ l P N _ _ x H8.out HP6.out HN6.out HN5.out HR2.out).mono ?_
        rintro e w9 ⟨vN2, rfl, hr, hs⟩
        have HP3 := Lib.hid (TC.keep HP2.out hs.keeps (fun x hx => HR2.out.fresh x hx) (fun x hx hs => HD2.out x hx hs))
        have HD3 : Hid (∀ x, F2 x → ¬ footR rb vP vN2 x) := fun x hx hf => (hs.new x hf).elim (fun h => HD2.out x hx h) (fun h => Nat.lt_irrefl _ (Nat.lt_of_lt_of_le (TC.sep HP2.out x hx).2 h))
        have hb9 := hs.keeps.below HB2.out.size (fun x hx hs => by have := HR2.out.fresh x hs; omega)
        have HB3 := Lib.hid (HB2.out.trans hb9)
        have i1 : w9.cell? ⟨g, o + k, none⟩ = some (.int .i64 x) := cell_in HB3.out hg e00
        have HR3 := Lib.hid hr
        clear hr hs hb9
        refine hK.out _ _ i1 (fun hHeld => ?_)
        clear hK K
        try simp only [Act.put, List.setIfInBounds_toArray, List.set_cons_zero, List.set_cons_succ]
        refine wpAnyH_take (i := 29) (oi := { dst := some 108, op := Op.binOp BinOp.neq 4 (Operand.tmp 101) (Operand.tmp 107) 4, type := 4, pos := "law.go:52", after := #[{ on := 22, ground := Ground.data }, { on := 28, ground := Ground.data }, { on := 16, ground := Ground.guard }], guard := some (16, false) }) (v := ?_) rfl (by kernel_rfl) (by kernel_rfl) (by kernel_rfl) (fun _ _ _ h => h) (Or.inl ⟨by rfl, ?_⟩) (by assumption) ?_
        rotate_left
        · intro w hSw
          try dsimp only at hSw
          go_simp
          try with_reducible rfl
        try simp only [Act.put, List.setIfInBounds_toArray, List.set_cons_zero, List.set_cons_succ]
        refine wpAnyH_take (i := 30) (oi := { dst := some 109, op := Op.pick (Operand.tmp 95) (Operand.const (Value.bool true)) (Operand.tmp 108), type := 4, pos := "law.go:52", after := #[{ on := 16, ground := Ground.data }, { on := 29, ground := Ground.data }], guard := none }) (v := ?_) rfl (by kernel_rfl) (by kernel_rfl) (by kernel_rfl) (fun _ _ _ h => h) (Or.inl ⟨by rfl, ?_⟩) (by assumption) ?_
        rotate_left
        · intro w hSw
          try dsimp only at hSw
          go_simp
          try with_reducible rfl
        try simp only [Act.put, List.setIfInBounds_toArray, List.set_cons_zero, List.set_cons_succ]
        refine wpAnyH_done (by kernel_rfl) ?_ _
        go_wp2
        go_roundw
        case rel => exact ⟨k + 1, F2, vP, vN2, hlt, by go_num, by rw [HT.out]; exact HP3.out, by rw [HT.out]; exact HR3.out, HB3.out, HD3.out⟩
        case measure => simp [intOf]; omega
      exact AllReadyH.nil
    · obtain rfl : k = X.length := by omega
      have hdx : ((X.length : Int) == (X.length : Int)) = true := by simp
      clear hq1 hq2 hq3
      go_wp2_with fail
      refine (tlive5_any TC _).mono ?_
      rintro e _ ⟨rfl, hb⟩
      go_wp2
      go_ret
      exact ⟨rfl, blThen HBW.out (blThen HB.out hb)⟩

end Go.Proofs.Ytopogdfmbdbimaa
