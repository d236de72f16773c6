/- The reference's Check. Conditions: a topology of less than 2^63 shards. -/
import Derived.Test.YtopogdfmbdbimaaTf
set_option linter.unusedVariables false
namespace Go.Proofs.Ytopogdfmbdbimaa
open Go.RowKit

/-- Of the shards the first k have been found good, up to x. -/
def GoodTo (l : List Sh) (k : Nat) (x : ByteArray) : Prop := RowAt l k x ∧ NodesTo l k
theorem good_end {l : List Sh} {k : Nat} {x : ByteArray} (h : NodesTo l k) (hx : RowAt l k x) (hk : l.length ≤ k) (h1 : 1 ≤ l.length) (h2 : l.length ≤ 8) (h3 : noT x = true) : topoB l = true :=
  nodes_end h hk h1 h2 ((rowAt_end hx hk).trans h3)
theorem rowAt_last {l : List Sh} {k : Nat} {s : Sh} (h : RowAt l k s.sp.1) (hs : l[k]? = some s) (h1 : k + 1 = l.length) (h2 : noT s.sp.2 = false) : rowF ⟨#[]⟩ (spans l) = false := by
  have := rowAt_next h hs (.inl h1)
  rw [rowAt_end this (by omega), h2]

set_option maxRecDepth 100000 in
set_option maxHeartbeats 8000000 in
theorem rtcheck_any (a : Option Addr) (c : Nat) (l : List Sh) (w : World) (ha : Hl w a l) :
    Calls Try.prog 29 #[.slice a l.length c] w fun e w' => e = .returned (.int .i64 (errT (topoB l))) ∧ Below w.heap.size w w' := by
  have HA := Lib.hid ha
  clear ha
  generalize hv : errT (topoB l) = v
  have HV := Lib.hid hv
  clear hv
  by_cases h0 : l.length < 1
  · have HF : Hid (errT (topoB l) = 40) := by show _ = _; rw [topo_few (.inl h0)]; rfl
    have hd0 : decide ((l.length : Int) < 1) = true := decide_eq_true (by omega)
    clear h0
    go_enter Try.func29, Try.ntmps29
    go_wp2
    go_ret
    exact ⟨ret_int (HF.out.symm.trans HV.out), Below.refl _ _⟩
  · by_cases h8 : 8 < l.length
    · have HF : Hid (errT (topoB l) = 40) := by show _ = _; rw [topo_few (.inr h8)]; rfl
      have hd0 : decide ((l.length : Int) < 1) = false := decide_eq_false (by omega)
      have hd8 : decide ((8 : Int) < (l.length : Int)) = true := decide_eq_true (by omega)
      clear h0 h8
      go_enter Try.func29, Try.ntmps29
      go_wp2
      go_ret
      exact ⟨ret_int (HF.out.symm.trans HV.out), Below.refl _ _⟩
    · have hd0 : decide ((l.length : Int) < 1) = false := decide_eq_false (by omega)
      have hd8 : decide ((8 : Int) < (l.length : Int)) = false := decide_eq_false (by omega)
      have H08 : Hid (1 ≤ l.length ∧ l.length ≤ 8) := ⟨by omega, by omega⟩
      clear h0 h8
      have h8x := H08.out.2
      go_enter Try.func29, Try.ntmps29
      go_wp2
      go_loopw [3, 4] (fun f i wr => ∃ (k : Nat) (x : ByteArray), k ≤ l.length ∧ i = .int .i64 k ∧ f = .string x ∧ (k = l.length → noT x = true) ∧ RowAt l k x ∧ NodesTo l k ∧ Below w.heap.size w wr) (fun _ i _ => l.length - (intOf i).toNat)
      case atStart => exact ⟨0, _, Nat.zero_le _, rfl, rfl, fun _ => noT_iff.2 rfl, rfl, rfl, Below.refl _ _⟩
      case round =>
        obtain ⟨k, x, hk, rfl, rfl, hno, hr, hn, hb⟩ := hrel
        have HNO := Lib.hid hno
        by_cases hlt : k < l.length
        · obtain ⟨s, hs⟩ := at_lt hlt
          obtain ⟨g, o, rfl, hg, d0, d1, d2⟩ := HA.out.at hs
          have c0 := cell_in hb hg d0
          have c1 := cell_in hb hg d1
          have c2 := cell_in hb hg d2
          have hgw := Nat.lt_of_lt_of_le hg hb.size
          have hk0 : (0 : Int) ≤ (k : Int) := by omega
          have hk1 : (k : Int) < (l.length : Int) := by omega
          have hdk : decide ((k : Int) < (l.length : Int)) = true := decide_eq_true hk1
          have HIL := Lib.hid ((HA.out.1 s (List.mem_of_getElem? hs)).later hb)
          have HS := Lib.hid hs
          have HR := Lib.hid hr
          have HN := Lib.hid hn
          have HB := Lib.hid hb
          clear hs hr hb d0 d1 d2 hn hno
          cases h1 : (s.sp.1.toList == x.toList)
          · have HF : Hid (errT (topoB l) = 40) := by show _ = _; rw [topo_row (rowAt_bad HR.out HS.out h1)]; rfl
            have h1b : (s.sp.1.toList != x.toList) = true := by simpa using h1
            go_wp2
            go_ret
            exact ⟨ret_int (HF.out.symm.trans HV.out), blAlloc HB.out _⟩
          · obtain rfl : s.sp.1 = x := text_ext (by simpa using h1)
            clear h1
            by_cases hl : k + 1 = l.length
            · have hlast : ((k : Int) == (l.length : Int) - 1) = true := by simp; omega
              cases h2 : noT s.sp.2
              · have HF : Hid (errT (topoB l) = 40) := by show _ = _; rw [topo_row (rowAt_last HR.out HS.out hl h2)]; rfl
                have h2b : s.sp.2.toList.isEmpty = false := h2
                clear hl h2
                go_wp2
                go_ret
                exact ⟨ret_int (HF.out.symm.trans HV.out), blAlloc HB.out _⟩
              · have h2b : s.sp.2.toList.isEmpty = true := h2
                have HX := Lib.hid (rowAt_next HR.out HS.out (.inl hl))
                have HNX : Hid (k + 1 = l.length → noT s.sp.2 = true) := fun _ => h2
                clear hl h2
                by_cases n1 : s.nodes.length < 1
                · have HF : Hid (errT (topoB l) = 40) := by show _ = _; rw [nodes_bad HS.out (by unfold nodesB; rw [decide_eq_false (by omega)]; rfl)]; rfl
                  have hn1 : decide ((s.nodes.length : Int) < 1) = true := decide_eq_true (by omega)
                  clear n1
                  go_wp2
                  go_ret
                  exact ⟨ret_int (HF.out.symm.trans HV.out), blAlloc HB.out _⟩
                · by_cases n5 : 5 < s.nodes.length
                  · have HF : Hid (errT (topoB l) = 40) := by show _ = _; rw [nodes_bad HS.out (by unfold nodesB; rw [decide_eq_false (by omega)]; rfl)]; rfl
                    have hn1 : decide ((s.nodes.length : Int) < 1) = false := decide_eq_false (by omega)
                    have hn5 : decide ((5 : Int) < (s.nodes.length : Int)) = true := decide_eq_true (by omega)
                    clear n1 n5
                    go_wp2
                    go_ret
                    exact ⟨ret_int (HF.out.symm.trans HV.out), blAlloc HB.out _⟩
                  · have hn1 : decide ((s.nodes.length : Int) < 1) = false := decide_eq_false (by omega)
                    have hn5 : decide ((5 : Int) < (s.nodes.length : Int)) = false := decide_eq_false (by omega)
                    have HNB : Hid (nodesB s.nodes = risF 0 s.nodes) := by show _ = _; unfold nodesB; rw [decide_eq_true (by omega)]; rfl
                    have hn5x : s.nodes.length ≤ 5 := by omega
                    clear n1 n5
                    go_wp2
                    go_loopw [8] (fun j wr2 => ∃ (q : Nat) (p : Int), q ≤ s.nodes.length ∧ j = .int .i64 q ∧ RisAt s.nodes q p ∧ Below wr.heap.size wr wr2) (fun j _ => s.nodes.length - (intOf j).toNat)
                    case atStart => exact ⟨0, 0, Nat.zero_le _, rfl, risAt_zero _, blAlloc (Below.refl _ _) _⟩
                    case round =>
                      rename_i wr2
                      obtain ⟨q, p, hq, rfl, hq2, hb2⟩ := hrel
                      have HQ := Lib.hid hq2
                      have HB2 := Lib.hid hb2
                      clear hq2
                      by_cases hlt2 : q < s.nodes.length
                      · obtain ⟨n, hn⟩ := at_lt hlt2
                        obtain ⟨g2, o2, ea, hg2, e0⟩ := HIL.out.at hn
                        have n0 := cell_in hb2 hg2 e0
                        have hg2w := Nat.lt_of_lt_of_le hg2 hb2.size
                        have hq0 : (0 : Int) ≤ (q : Int) := by omega
                        have hq1 : (q : Int) < (s.nodes.length : Int) := by omega
                        have hdq : decide ((q : Int) < (s.nodes.length : Int)) = true := decide_eq_true hq1
                        have HNN := Lib.hid hn
                        clear hn e0
                        rw [ea]
                        by_cases m1 : n < 1
                        · have HF : Hid (errT (topoB l) = 40) := by show _ = _; rw [nodes_bad HS.out (HNB.out.trans (risAt_bad HQ.out HNN.out (.inl (by simp [nodeB]; omega))))]; rfl
                          have hm1 : decide (n < 1) = true := decide_eq_true m1
                          clear m1
                          go_wp2
                          go_quiet (fail)
                          go_wp2
                          first | go_ret | (rw [Exit.noGoto_ret]; go_ret)
                          exact ⟨ret_int (HF.out.symm.trans HV.out), HB.out.trans ((HB2.out.mono HB.out.size).trans ⟨rfl, rfl, rfl, Nat.le_refl _, fun _ _ => rfl⟩)⟩
                        · by_cases m7 : 7 < n
                          · have HF : Hid (errT (topoB l) = 40) := by show _ = _; rw [nodes_bad HS.out (HNB.out.trans (risAt_bad HQ.out HNN.out (.inl (by simp [nodeB]; omega))))]; rfl
                            have hm1 : decide (n < 1) = false := decide_eq_false m1
                            have hm7 : decide (7 < n) = true := decide_eq_true m7
                            clear m1 m7
                            go_wp2
                            go_quiet (fail)
                            go_wp2
                            first | go_ret | (rw [Exit.noGoto_ret]; go_ret)
                            exact ⟨ret_int (HF.out.symm.trans HV.out), HB.out.trans ((HB2.out.mono HB.out.size).trans ⟨rfl, rfl, rfl, Nat.le_refl _, fun _ _ => rfl⟩)⟩
                          · have HND : Hid (nodeB n = true) := nodeB_iff.2 ⟨by omega, by omega⟩
                            have hm1 : decide (n < 1) = false := decide_eq_false m1
                            have hm7 : decide (7 < n) = false := decide_eq_false m7
                            have HN1 : Hid (0 < n) := by show _ < _; omega
                            clear m1 m7
                            cases q with
                            | zero =>
                              obtain rfl : p = 0 := HQ.out.1 rfl
                              rw [Nat.add_zero] at n0
                              have hz : decide ((0 : Int) < 0) = false := by decide
                              have HXQ := Lib.hid (risAt_next HQ.out HNN.out HND.out HN1.out)
                              go_wp2
                              go_quiet (fail)
                              go_wp2
                              go_roundw
                              case rel => exact ⟨1, n, hlt2, by go_num, HXQ.out, HB2.out.trans ⟨rfl, rfl, rfl, Nat.le_refl _, fun _ _ => rfl⟩⟩
                              case measure => simp [intOf]; omega
                            | succ j =>
                              have hj := HQ.out.2.1 j rfl
                              obtain ⟨g3, o3, ea3, hg3, e1⟩ := HIL.out.at hj
                              have e4 := ea.symm.trans ea3
                              simp only [Option.some.injEq, Addr.mk.injEq, and_true] at e4
                              obtain ⟨rfl, rfl⟩ := e4
                              have n1 := cell_in hb2 hg3 e1
                              have hj0 : (0 : Int) ≤ (j : Int) := by omega
                              have hj1 : (j : Int) < (s.nodes.length : Int) := by omega
                              have hpos : decide ((0 : Int) < (j : Int) + 1) = true := decide_eq_true (by omega)
                              clear hj e1 ea3 hb2
                              by_cases hnp : n ≤ p
                              · have HF : Hid (errT (topoB l) = 40) := by show _ = _; rw [nodes_bad HS.out (HNB.out.trans (risAt_bad HQ.out HNN.out (.inr hnp)))]; rfl
                                have hdn : decide (n ≤ p) = true := decide_eq_true hnp
                                clear hnp
                                go_wp2
                                go_quiet (fail)
                                go_wp2
                                first | go_ret | (rw [Exit.noGoto_ret]; go_ret)
                                exact ⟨ret_int (HF.out.symm.trans HV.out), HB.out.trans ((HB2.out.mono HB.out.size).trans ⟨rfl, rfl, rfl, Nat.le_refl _, fun _ _ => rfl⟩)⟩
                              · have HXQ := Lib.hid (risAt_next HQ.out HNN.out HND.out (by omega))
                                have hdn : decide (n ≤ p) = false := decide_eq_false hnp
                                clear hnp
                                go_wp2
                                go_quiet (fail)
                                go_wp2
                                go_roundw
                                case rel => exact ⟨j + 1 + 1, n, hlt2, by go_num, HXQ.out, HB2.out.trans ⟨rfl, rfl, rfl, Nat.le_refl _, fun _ _ => rfl⟩⟩
                                case measure => simp [intOf]; omega
                      · have HF2 := Lib.hid (risAt_end HQ.out (by omega))
                        have HXN := Lib.hid (nodesTo_next HN.out HS.out (HNB.out.trans HF2.out))
                        have hdq : decide ((q : Int) < (s.nodes.length : Int)) = false := decide_eq_false (by omega)
                        clear hb2
                        go_wp2
                        go_roundw
                        case rel => exact ⟨k + 1, s.sp.2, hlt, by go_num, rfl, HNX.out, HX.out, HXN.out, HB.out.trans (HB2.out.mono HB.out.size)⟩
                        case measure => simp [intOf]; omega
            · have hlast : ((k : Int) == (l.length : Int) - 1) = false := by simp; omega
              have HNX : Hid (k + 1 = l.length → noT s.sp.2 = true) := fun h => absurd h hl
              cases h2 : ltT s.sp.1 s.sp.2
              · have HF : Hid (errT (topoB l) = 40) := by show _ = _; rw [topo_row (rowAt_low HR.out HS.out hl (.inl h2))]; rfl
                have hle : (Op.bytesLess s.sp.2.toList s.sp.1.toList || s.sp.2.toList == s.sp.1.toList) = true := by rw [le_iff, h2]; rfl
                clear hl h2
                go_wp2
                go_ret
                exact ⟨ret_int (HF.out.symm.trans HV.out), blAlloc HB.out _⟩
              · have hle : (Op.bytesLess s.sp.2.toList s.sp.1.toList || s.sp.2.toList == s.sp.1.toList) = false := by rw [le_iff, h2]; rfl
                by_cases h3 : 16 < s.sp.2.size
                · have HF : Hid (errT (topoB l) = 40) := by show _ = _; rw [topo_row (rowAt_low HR.out HS.out hl (.inr h3))]; rfl
                  have hd3 : decide ((16 : Int) < (s.sp.2.size : Int)) = true := decide_eq_true (by omega)
                  clear hl h2 h3
                  go_wp2
                  go_ret
                  exact ⟨ret_int (HF.out.symm.trans HV.out), blAlloc HB.out _⟩
                · have HX := Lib.hid (rowAt_next HR.out HS.out (.inr ⟨h2, by omega⟩))
                  have hd3 : decide ((16 : Int) < (s.sp.2.size : Int)) = false := decide_eq_false (by omega)
                  clear hl h2 h3
                  by_cases n1 : s.nodes.length < 1
                  · have HF : Hid (errT (topoB l) = 40) := by show _ = _; rw [nodes_bad HS.out (by unfold nodesB; rw [decide_eq_false (by omega)]; rfl)]; rfl
                    have hn1 : decide ((s.nodes.length : Int) < 1) = true := decide_eq_true (by omega)
                    clear n1
                    go_wp2
                    go_ret
                    exact ⟨ret_int (HF.out.symm.trans HV.out), blAlloc HB.out _⟩
                  · by_cases n5 : 5 < s.nodes.length
                    · have HF : Hid (errT (topoB l) = 40) := by show _ = _; rw [nodes_bad HS.out (by unfold nodesB; rw [decide_eq_false (by omega)]; rfl)]; rfl
                      have hn1 : decide ((s.nodes.length : Int) < 1) = false := decide_eq_false (by omega)
                      have hn5 : decide ((5 : Int) < (s.nodes.length : Int)) = true := decide_eq_true (by omega)
                      clear n1 n5
                      go_wp2
                      go_ret
                      exact ⟨ret_int (HF.out.symm.trans HV.out), blAlloc HB.out _⟩
                    · have hn1 : decide ((s.nodes.length : Int) < 1) = false := decide_eq_false (by omega)
                      have hn5 : decide ((5 : Int) < (s.nodes.length : Int)) = false := decide_eq_false (by omega)
                      have HNB : Hid (nodesB s.nodes = risF 0 s.nodes) := by show _ = _; unfold nodesB; rw [decide_eq_true (by omega)]; rfl
                      have hn5x : s.nodes.length ≤ 5 := by omega
                      clear n1 n5
                      go_wp2
                      go_loopw [8] (fun j wr2 => ∃ (q : Nat) (p : Int), q ≤ s.nodes.length ∧ j = .int .i64 q ∧ RisAt s.nodes q p ∧ Below wr.heap.size wr wr2) (fun j _ => s.nodes.length - (intOf j).toNat)
                      case atStart => exact ⟨0, 0, Nat.zero_le _, rfl, risAt_zero _, blAlloc (Below.refl _ _) _⟩
                      case round =>
                        rename_i wr2
                        obtain ⟨q, p, hq, rfl, hq2, hb2⟩ := hrel
                        have HQ := Lib.hid hq2
                        have HB2 := Lib.hid hb2
                        clear hq2
                        by_cases hlt2 : q < s.nodes.length
                        · obtain ⟨n, hn⟩ := at_lt hlt2
                          obtain ⟨g2, o2, ea, hg2, e0⟩ := HIL.out.at hn
                          have n0 := cell_in hb2 hg2 e0
                          have hg2w := Nat.lt_of_lt_of_le hg2 hb2.size
                          have hq0 : (0 : Int) ≤ (q : Int) := by omega
                          have hq1 : (q : Int) < (s.nodes.length : Int) := by omega
                          have hdq : decide ((q : Int) < (s.nodes.length : Int)) = true := decide_eq_true hq1
                          have HNN := Lib.hid hn
                          clear hn e0
                          rw [ea]
                          by_cases m1 : n < 1
                          · have HF : Hid (errT (topoB l) = 40) := by show _ = _; rw [nodes_bad HS.out (HNB.out.trans (risAt_bad HQ.out HNN.out (.inl (by simp [nodeB]; omega))))]; rfl
                            have hm1 : decide (n < 1) = true := decide_eq_true m1
                            clear m1
                            go_wp2
                            go_quiet (fail)
                            go_wp2
                            first | go_ret | (rw [Exit.noGoto_ret]; go_ret)
                            exact ⟨ret_int (HF.out.symm.trans HV.out), HB.out.trans ((HB2.out.mono HB.out.size).trans ⟨rfl, rfl, rfl, Nat.le_refl _, fun _ _ => rfl⟩)⟩
                          · by_cases m7 : 7 < n
                            · have HF : Hid (errT (topoB l) = 40) := by show _ = _; rw [nodes_bad HS.out (HNB.out.trans (risAt_bad HQ.out HNN.out (.inl (by simp [nodeB]; omega))))]; rfl
                              have hm1 : decide (n < 1) = false := decide_eq_false m1
                              have hm7 : decide (7 < n) = true := decide_eq_true m7
                              clear m1 m7
                              go_wp2
                              go_quiet (fail)
                              go_wp2
                              first | go_ret | (rw [Exit.noGoto_ret]; go_ret)
                              exact ⟨ret_int (HF.out.symm.trans HV.out), HB.out.trans ((HB2.out.mono HB.out.size).trans ⟨rfl, rfl, rfl, Nat.le_refl _, fun _ _ => rfl⟩)⟩
                            · have HND : Hid (nodeB n = true) := nodeB_iff.2 ⟨by omega, by omega⟩
                              have hm1 : decide (n < 1) = false := decide_eq_false m1
                              have hm7 : decide (7 < n) = false := decide_eq_false m7
                              have HN1 : Hid (0 < n) := by show _ < _; omega
                              clear m1 m7
                              cases q with
                              | zero =>
                                obtain rfl : p = 0 := HQ.out.1 rfl
                                rw [Nat.add_zero] at n0
                                have hz : decide ((0 : Int) < 0) = false := by decide
                                have HXQ := Lib.hid (risAt_next HQ.out HNN.out HND.out HN1.out)
                                go_wp2
                                go_quiet (fail)
                                go_wp2
                                go_roundw
                                case rel => exact ⟨1, n, hlt2, by go_num, HXQ.out, HB2.out.trans ⟨rfl, rfl, rfl, Nat.le_refl _, fun _ _ => rfl⟩⟩
                                case measure => simp [intOf]; omega
                              | succ j =>
                                have hj := HQ.out.2.1 j rfl
                                obtain ⟨g3, o3, ea3, hg3, e1⟩ := HIL.out.at hj
                                have e4 := ea.symm.trans ea3
                                simp only [Option.some.injEq, Addr.mk.injEq, and_true] at e4
                                obtain ⟨rfl, rfl⟩ := e4
                                have n1 := cell_in hb2 hg3 e1
                                have hj0 : (0 : Int) ≤ (j : Int) := by omega
                                have hj1 : (j : Int) < (s.nodes.length : Int) := by omega
                                have hpos : decide ((0 : Int) < (j : Int) + 1) = true := decide_eq_true (by omega)
                                clear hj e1 ea3 hb2
                                by_cases hnp : n ≤ p
                                · have HF : Hid (errT (topoB l) = 40) := by show _ = _; rw [nodes_bad HS.out (HNB.out.trans (risAt_bad HQ.out HNN.out (.inr hnp)))]; rfl
                                  have hdn : decide (n ≤ p) = true := decide_eq_true hnp
                                  clear hnp
                                  go_wp2
                                  go_quiet (fail)
                                  go_wp2
                                  first | go_ret | (rw [Exit.noGoto_ret]; go_ret)
                                  exact ⟨ret_int (HF.out.symm.trans HV.out), HB.out.trans ((HB2.out.mono HB.out.size).trans ⟨rfl, rfl, rfl, Nat.le_refl _, fun _ _ => rfl⟩)⟩
                                · have HXQ := Lib.hid (risAt_next HQ.out HNN.out HND.out (by omega))
                                  have hdn : decide (n ≤ p) = false := decide_eq_false hnp
                                  clear hnp
                                  go_wp2
                                  go_quiet (fail)
                                  go_wp2
                                  go_roundw
                                  case rel => exact ⟨j + 1 + 1, n, hlt2, by go_num, HXQ.out, HB2.out.trans ⟨rfl, rfl, rfl, Nat.le_refl _, fun _ _ => rfl⟩⟩
                                  case measure => simp [intOf]; omega
                        · have HF2 := Lib.hid (risAt_end HQ.out (by omega))
                          have HXN := Lib.hid (nodesTo_next HN.out HS.out (HNB.out.trans HF2.out))
                          have hdq : decide ((q : Int) < (s.nodes.length : Int)) = false := decide_eq_false (by omega)
                          clear hb2
                          go_wp2
                          go_roundw
                          case rel => exact ⟨k + 1, s.sp.2, hlt, by go_num, rfl, HNX.out, HX.out, HXN.out, HB.out.trans (HB2.out.mono HB.out.size)⟩
                          case measure => simp [intOf]; omega
        · have hnx := HNO.out (by omega)
          have HF : Hid (errT (topoB l) = 0) := by show _ = _; rw [good_end hn hr (by omega) H08.out.1 H08.out.2 hnx]; rfl
          have hdk : decide ((k : Int) < (l.length : Int)) = false := decide_eq_false (by omega)
          have HB := Lib.hid hb
          clear hr hb hn hno hnx
          go_wp2
          go_ret
          exact ⟨ret_int (HF.out.symm.trans HV.out), HB.out⟩

end Go.Proofs.Ytopogdfmbdbimaa
