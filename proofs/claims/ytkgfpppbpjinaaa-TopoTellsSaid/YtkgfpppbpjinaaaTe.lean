/- Check of the program. Conditions: a topology of less than 2^63 shards. -/
import Derived.Test.YtkgfpppbpjinaaaTd
set_option linter.unusedVariables false
namespace Go.Proofs.Ytkgfpppbpjinaaa
open Go.RowKit

/-- Of the shards the nodes of the first k are such as may be. -/
def NodesTo (l : List Sh) (k : Nat) : Prop := (l.take k).all (fun s => nodesB s.nodes) = true
theorem nodesTo_next {l : List Sh} {k : Nat} {s : Sh} (h : NodesTo l k) (hs : l[k]? = some s) (h1 : nodesB s.nodes = true) : NodesTo l (k + 1) := by
  unfold NodesTo at *
  rw [List.take_add_one, hs, List.all_append, h]
  simp [h1]
theorem nodes_bad {l : List Sh} {k : Nat} {s : Sh} (hs : l[k]? = some s) (h1 : nodesB s.nodes = false) : topoB l = false := by
  have : l.all (fun s => nodesB s.nodes) = false := by
    rw [List.all_eq_false]
    exact ⟨s, List.mem_of_getElem? hs, by rw [h1]; simp⟩
  unfold topoB
  rw [this]
  simp
theorem nodes_end {l : List Sh} {k : Nat} (h : NodesTo l k) (hk : l.length ≤ k) (h1 : 1 ≤ l.length) (h2 : l.length ≤ 8) (h3 : rowF ⟨#[]⟩ (spans l) = true) : topoB l = true := by
  unfold NodesTo at h
  rw [List.take_of_length_le hk] at h
  unfold topoB
  rw [h, h3, decide_eq_true ⟨h1, h2⟩]
  rfl
theorem topo_few {l : List Sh} (h : l.length < 1 ∨ 8 < l.length) : topoB l = false := by
  unfold topoB
  rw [decide_eq_false (by omega)]
  rfl
theorem topo_row {l : List Sh} (h : rowF ⟨#[]⟩ (spans l) = false) : topoB l = false := by
  unfold topoB
  rw [h]
  simp
def errT (b : Bool) : Int := if b = true then 0 else 40

set_option maxRecDepth 100000 in
set_option maxHeartbeats 2000000 in
theorem tcheck_any (a : Option Addr) (c : Nat) (l : List Sh) (w : World) (ha : Hl w a l) :
    Calls Try.prog 12 #[.slice a l.length c] w fun e w' => e = .returned (.int .i64 (errT (topoB l))) ∧ Below w.heap.size w w' := by
  have HA := Lib.hid ha
  clear ha
  generalize hv : errT (topoB l) = v
  have HV := Lib.hid hv
  clear hv
  by_cases h0 : l.length < 1
  · have HF : Hid (errT (topoB l) = 40) := by show _ = _; rw [topo_few (.inl h0)]; rfl
    have hd0 : decide ((l.length : Int) < 1) = true := decide_eq_true (by omega)
    clear h0
    go_enter Try.func12, Try.ntmps12
    go_wp2
    go_ret
    exact ⟨ret_int (HF.out.symm.trans HV.out), Below.refl _ _⟩
  · by_cases h8 : 8 < l.length
    · have HF : Hid (errT (topoB l) = 40) := by show _ = _; rw [topo_few (.inr h8)]; rfl
      have hd0 : decide ((l.length : Int) < 1) = false := decide_eq_false (by omega)
      have hd8 : decide ((8 : Int) < (l.length : Int)) = true := decide_eq_true (by omega)
      clear h0 h8
      go_enter Try.func12, Try.ntmps12
      go_wp2
      go_ret
      exact ⟨ret_int (HF.out.symm.trans HV.out), Below.refl _ _⟩
    · have hd0 : decide ((l.length : Int) < 1) = false := decide_eq_false (by omega)
      have hd8 : decide ((8 : Int) < (l.length : Int)) = false := decide_eq_false (by omega)
      have H08 : Hid (1 ≤ l.length ∧ l.length ≤ 8) := ⟨by omega, by omega⟩
      clear h0 h8
      cases hrow : rowF ⟨#[]⟩ (spans l)
      · have HF : Hid (errT (topoB l) = 40) := by show _ = _; rw [topo_row hrow]; rfl
        have HROW := Lib.hid hrow
        clear hrow
        go_enter Try.func12, Try.ntmps12
        go_wp2_with (go_at_call 32; refine (isRow_any _ _ l _ (Nat.le_trans H08.out.2 (by decide)) HA.out).mono ?_; rintro r w1 ⟨rfl, hb⟩; rw [HROW.out]; have HB := Lib.hid hb; clear hb)
        go_ret
        exact ⟨ret_int (HF.out.symm.trans HV.out), HB.out⟩
      · have HROW := Lib.hid hrow
        clear hrow
        go_enter Try.func12, Try.ntmps12
        go_wp2_with (go_at_call 32; refine (isRow_any _ _ l _ (Nat.le_trans H08.out.2 (by decide)) HA.out).mono ?_; rintro r w1 ⟨rfl, hb⟩; rw [HROW.out]; have HB1 := Lib.hid hb; clear hb)
        have h8x := H08.out.2
        go_loopw [20] (fun i wr => ∃ (k : Nat), k ≤ l.length ∧ i = .int .i64 k ∧ NodesTo l k ∧ Below w.heap.size w wr) (fun i _ => l.length - (intOf i).toNat)
        case atStart => exact ⟨0, Nat.zero_le _, rfl, rfl, HB1.out⟩
        case round =>
          obtain ⟨k, hk, rfl, hr, hb⟩ := hrel
          by_cases hlt : k < l.length
          · obtain ⟨s, hs⟩ := at_lt hlt
            obtain ⟨g, o, rfl, hg, d0, d1, d2⟩ := HA.out.at hs
            have c0 := cell_in hb hg d0
            have c1 := cell_in hb hg d1
            have c2 := cell_in hb hg d2
            have hgw := Nat.lt_of_lt_of_le hg hb.size
            have hk0 : (0 : Int) ≤ (k : Int) := by omega
            have hk1 : (k : Int) < (l.length : Int) := by omega
            have hdk : decide ((k : Int) < (l.length : Int)) = true := decide_eq_true hk1
            have HIL := Lib.hid ((HA.out.1 s (List.mem_of_getElem? hs)).later hb)
            have HS := Lib.hid hs
            have HR := Lib.hid hr
            have HB := Lib.hid hb
            clear hs hr hb d0 d1 d2
            by_cases n1 : s.nodes.length < 1
            · have HF : Hid (errT (topoB l) = 40) := by show _ = _; rw [nodes_bad HS.out (by unfold nodesB; rw [decide_eq_false (by omega)]; rfl)]; rfl
              have hn1 : decide ((s.nodes.length : Int) < 1) = true := decide_eq_true (by omega)
              clear n1
              go_wp2
              go_ret
              exact ⟨ret_int (HF.out.symm.trans HV.out), blAlloc HB.out _⟩
            · by_cases n5 : 5 < s.nodes.length
              · have HF : Hid (errT (topoB l) = 40) := by show _ = _; rw [nodes_bad HS.out (by unfold nodesB; rw [decide_eq_false (by omega)]; rfl)]; rfl
                have hn1 : decide ((s.nodes.length : Int) < 1) = false := decide_eq_false (by omega)
                have hn5 : decide ((5 : Int) < (s.nodes.length : Int)) = true := decide_eq_true (by omega)
                clear n1 n5
                go_wp2
                go_ret
                exact ⟨ret_int (HF.out.symm.trans HV.out), blAlloc HB.out _⟩
              · have hn1 : decide ((s.nodes.length : Int) < 1) = false := decide_eq_false (by omega)
                have hn5 : decide ((5 : Int) < (s.nodes.length : Int)) = false := decide_eq_false (by omega)
                have HL5 : Hid (s.nodes.length ≤ 1000000) := by show _ ≤ _; omega
                have HNB : Hid (nodesB s.nodes = risF 0 s.nodes) := by show _ = _; unfold nodesB; rw [decide_eq_true (by omega)]; rfl
                clear n1 n5
                cases hris : risF 0 s.nodes
                · have HRIS := Lib.hid hris
                  have HF : Hid (errT (topoB l) = 40) := by show _ = _; rw [nodes_bad HS.out (HNB.out.trans hris)]; rfl
                  clear hris
                  go_wp2_with (go_at_call 33; refine (areRising_any _ _ s.nodes _ HL5.out (HIL.out.later (blAlloc (Below.refl _ _) _))).mono ?_; rintro r w2 ⟨rfl, rfl⟩; rw [HRIS.out])
                  go_ret
                  exact ⟨ret_int (HF.out.symm.trans HV.out), blAlloc HB.out _⟩
                · have HRIS := Lib.hid hris
                  have HX := Lib.hid (nodesTo_next HR.out HS.out (HNB.out.trans hris))
                  clear hris
                  go_wp2_with (go_at_call 33; refine (areRising_any _ _ s.nodes _ HL5.out (HIL.out.later (blAlloc (Below.refl _ _) _))).mono ?_; rintro r w2 ⟨rfl, rfl⟩; rw [HRIS.out])
                  go_roundw
                  case rel => exact ⟨k + 1, hlt, by go_num, HX.out, blAlloc HB.out _⟩
                  case measure => simp [intOf]; omega
          · have HF : Hid (errT (topoB l) = 0) := by show _ = _; rw [nodes_end hr (by omega) H08.out.1 H08.out.2 HROW.out]; rfl
            have hdk : decide ((k : Int) < (l.length : Int)) = false := decide_eq_false (by omega)
            have HB := Lib.hid hb
            clear hr hb
            go_wp2
            go_ret
            exact ⟨ret_int (HF.out.symm.trans HV.out), HB.out⟩

end Go.Proofs.Ytkgfpppbpjinaaa
