/- The set that a node owns, by the program and by the reference. Conditions: a topology whose nodes may be. -/
import Derived.Test.YtkgfpppbpjinaaaTo
set_option linter.unusedVariables false
namespace Go.Proofs.Ytkgfpppbpjinaaa
open Go.RowKit

/-- The span of the shard at a place. -/
def spAt (l : List Sh) (i : Int) : Sp := match l[i.toNat]? with | some s => s.sp | none => (⟨#[]⟩, ⟨#[]⟩)
theorem spAt_at {l : List Sh} {i : Nat} {s : Sh} (h : l[i]? = some s) : spAt l (i : Int) = s.sp := by
  unfold spAt
  rw [Int.toNat_natCast, h]
theorem own_map (l : List Sh) (n : Int) : ∀ k, k ≤ l.length → (ofTo (fun i => shHas l i n) k).map (spAt l) = ownTo l n k
  | 0, _ => rfl
  | k + 1, hk => by
    obtain ⟨s, hs⟩ := at_lt (l := l) (k := k) (by omega)
    rw [ofTo_succ, ownTo_succ hs, List.map_append, own_map l n k (by omega), shHas_at hs]
    cases hasN s.nodes n
    · simp
    · simp [spAt_at hs]
theorem map_take {l : List Sh} {Q : List Int} {q : Nat} {x : Int} (h : Q[q]? = some x) : (Q.take (q + 1)).map (spAt l) = (Q.take q).map (spAt l) ++ [spAt l x] := by
  rw [List.take_add_one, h, List.map_append]
  rfl

set_option maxRecDepth 100000 in
set_option maxHeartbeats 2000000 in
theorem owned_any (a : Option Addr) (c : Nat) (l : List Sh) (n : Int) (w : World) (hlen : l.length ≤ 1000000) (hn5 : ∀ s ∈ l, s.nodes.length ≤ 1000000) (hsh : ∀ i, i < l.length → shHas' l n i = shHas l i n) (ha : Hl w a l) :
    Calls Try.prog 25 #[.slice a l.length c, .int .i64 n] w (RetO w (ownL l n)) := by
  have HA := Lib.hid ha
  have HQ : Hid (ofTo (shHas' l n) l.length = ofTo (fun i => shHas l i n) l.length) := ofTo_congr hsh
  have HM := Lib.hid (own_map l n l.length (Nat.le_refl _))
  have HOL := Lib.hid (ownTo_len l n l.length)
  clear ha hsh
  go_enter Try.func25, Try.ntmps25
  go_wp2_with fail
  refine (of_any _ _ l n _ hlen hn5 HA.out).mono ?_
  rintro e w1 ⟨v, rfl, ho, hb⟩
  rw [HQ.out] at ho
  have HMEM := Lib.hid (fun (x : Int) (hx : x ∈ ofTo (fun i => shHas l i n) l.length) => (ofTo_mem _ _ _).1 hx)
  have hql : (ofTo (fun i => shHas l i n) l.length).length ≤ 1000000 := Nat.le_trans (ofTo_len _ _) hlen
  generalize ofTo (fun i => shHas l i n) l.length = Q at *
  obtain ⟨aq, cq, rfl⟩ := ho.form
  have HI := Lib.hid ho.at
  have HB := Lib.hid hb
  clear ho hb
  go_wp2
  go_loopw [5, 12] (fun v i wr => ∃ q : Nat, q ≤ Q.length ∧ i = .int .i64 q ∧ OwnL wr w1.heap.size v ((Q.take q).map (spAt l)) ∧ Below w1.heap.size w1 wr) (fun _ i _ => Q.length - (intOf i).toNat)
  case atStart => exact ⟨0, Nat.zero_le _, rfl, OwnL.nil _ _, Below.refl _ _⟩
  case round =>
    obtain ⟨q, hq, rfl, ho, hb⟩ := hrel
    obtain ⟨av, cv, rfl⟩ := ho.form
    have HO := Lib.hid ho
    have HB1 := Lib.hid hb
    clear ho
    by_cases hlt : q < Q.length
    · obtain ⟨x, hx⟩ := at_lt hlt
      obtain ⟨i, hi, _, rfl⟩ := HMEM.out x (List.mem_of_getElem? hx)
      obtain ⟨s, hs⟩ := at_lt hi
      obtain ⟨gq, oq, rfl, hgq, e0⟩ := HI.out.at hx
      obtain ⟨g, o, rfl, hg, d0, d1, d2⟩ := HA.out.at hs
      have x0 := cell_in hb hgq e0
      have c0 := cell_in HB1.out (Nat.lt_of_lt_of_le hg HB.out.size) (cell_in HB.out hg d0)
      have c1 := cell_in HB1.out (Nat.lt_of_lt_of_le hg HB.out.size) (cell_in HB.out hg d1)
      have hgw : g < wr.heap.size := Nat.lt_of_lt_of_le (Nat.lt_of_lt_of_le hg HB.out.size) hb.size
      have hgqw := Nat.lt_of_lt_of_le hgq hb.size
      have hq0 : (0 : Int) ≤ (q : Int) := by omega
      have hq1 : (q : Int) < (Q.length : Int) := by omega
      have hdq : decide ((q : Int) < (Q.length : Int)) = true := decide_eq_true hq1
      have hi0 : (0 : Int) ≤ (i : Int) := by omega
      have hi1 : (i : Int) < (l.length : Int) := by omega
      have HT : Hid ((Q.take (q + 1)).map (spAt l) = (Q.take q).map (spAt l) ++ [s.sp]) := by show _ = _; rw [map_take hx, spAt_at hs]
      have HL : Hid (((Q.take q).map (spAt l)).length ≤ 1000000) := by show _ ≤ _; rw [List.length_map, List.length_take]; omega
      clear hx hs hb d0 d1 d2 e0
      go_wp2_with (at_builtin; refine append_sp rfl _ _ rfl w1.heap.size _ ((Q.take q).map (spAt l)) rfl (HO.out.later (blAlloc (Below.refl _ _) _)) _ [s.sp] rfl (sl_one _ s.sp _ rfl) (by have := HL.out; simp only [List.length_singleton]; omega) (by have := HB1.out.size; simp; omega) ?_; intro v1 w3 h1 h2; have H1 := Lib.hid h1; have H2 := Lib.hid (grown_below (blAlloc HB1.out _) (HO.out.later (blAlloc (Below.refl _ _) _)) (Nat.le_refl _) (by have := HB1.out.size; simp; omega) h2); clear h1 h2)
      go_roundw
      case rel => exact ⟨q + 1, hlt, by go_num, by rw [HT.out]; exact H1.out, H2.out⟩
      case measure => simp [intOf]; omega
    · obtain rfl : q = Q.length := by omega
      have hdq : decide ((Q.length : Int) < (Q.length : Int)) = false := by simp
      have HO2 : Hid (OwnL wr w1.heap.size (.slice av (ownTo l n l.length).length cv) (ownTo l n l.length)) := by have h := HO.out; rw [List.take_length, HM.out] at h; exact h
      have HB2 := Lib.hid (blThen HB.out hb)
      rw [List.take_length, HM.out]
      clear hb HO
      go_wp2_with fail
      refine (union_any _ (ownTo l n l.length) _ (Nat.le_trans HOL.out hlen) HO2.out.sl).mono ?_
      rintro e w3 ⟨v3, rfl, ho3, hb3⟩
      have HO3 := Lib.hid (ho3.mono HB2.out.size)
      have HB3 := Lib.hid (blThen HB2.out hb3)
      clear ho3 hb3
      go_wp2
      go_ret
      exact ⟨_, rfl, HO3.out, HB3.out⟩

set_option maxRecDepth 100000 in
set_option maxHeartbeats 2000000 in
theorem refowned_any (a : Option Addr) (c : Nat) (l : List Sh) (n : Int) (w : World) (hlen : l.length ≤ 300000) (hn5 : ∀ s ∈ l, s.nodes.length ≤ 1000000) (ha : Hl w a l) :
    Calls Try.prog 26 #[.slice a l.length c, .int .i64 n] w (RetO w (ownL l n)) := by
  have HA := Lib.hid ha
  have HN5 := Lib.hid hn5
  have HOL := Lib.hid (ownTo_len l n l.length)
  clear ha hn5
  go_enter Try.func26, Try.ntmps26
  go_wp2
  go_loopw [5, 6] (fun v i wr => ∃ k : Nat, k ≤ l.length ∧ i = .int .i64 k ∧ OwnL wr w.heap.size v (ownTo l n k) ∧ Below w.heap.size w wr) (fun _ i _ => l.length - (intOf i).toNat)
  case atStart => exact ⟨0, Nat.zero_le _, rfl, OwnL.nil _ _, Below.refl _ _⟩
  case round =>
    obtain ⟨k, hk, rfl, ho, hb⟩ := hrel
    obtain ⟨av, cv, rfl⟩ := ho.form
    have HO := Lib.hid ho
    have HB := Lib.hid hb
    clear ho
    by_cases hlt : k < l.length
    · obtain ⟨s, hs⟩ := at_lt hlt
      obtain ⟨g, o, rfl, hg, d0, d1, d2⟩ := HA.out.at hs
      have c0 := cell_in hb hg d0
      have c1 := cell_in hb hg d1
      have c2 := cell_in hb hg d2
      have hgw := Nat.lt_of_lt_of_le hg hb.size
      have hk0 : (0 : Int) ≤ (k : Int) := by omega
      have hk1 : (k : Int) < (l.length : Int) := by omega
      have hdk : decide ((k : Int) < (l.length : Int)) = true := decide_eq_true hk1
      have HIL := Lib.hid ((HA.out.1 s (List.mem_of_getElem? hs)).later hb)
      have HL5 := Lib.hid (HN5.out s (List.mem_of_getElem? hs))
      have HL := Lib.hid (ownTo_len l n k)
      have HT := Lib.hid (ownTo_succ (n := n) hs)
      clear hs hb d0 d1 d2
      generalize hh : hasN s.nodes n = b at *
      have HH := Lib.hid hh
      clear hh
      cases b
      · go_wp2_with (go_at_call 15; refine (refin_i _ _ s.nodes n _ HL5.out HIL.out).mono ?_; rintro r w2 ⟨rfl, rfl⟩; rw [HH.out])
        go_roundw
        case rel => exact ⟨k + 1, hlt, by go_num, by rw [HT.out]; simp only [Bool.false_eq_true, if_false, List.append_nil]; exact HO.out, HB.out⟩
        case measure => simp [intOf]; omega
      · go_wp2_with (first
          | (go_at_call 15; refine (refin_i _ _ s.nodes n _ HL5.out HIL.out).mono ?_; rintro r w2 ⟨rfl, rfl⟩; rw [HH.out])
          | (at_builtin; refine append_sp rfl _ _ rfl w.heap.size _ (ownTo l n k) rfl (HO.out.later (blAlloc (Below.refl _ _) _)) _ [s.sp] rfl (sl_one _ s.sp _ rfl) (by have := HL.out; simp only [List.length_singleton]; omega) (by have := HB.out.size; simp; omega) ?_; intro v1 w3 h1 h2; have H1 := Lib.hid h1; have H2 := Lib.hid (grown_below (blAlloc HB.out _) (HO.out.later (blAlloc (Below.refl _ _) _)) (Nat.le_refl _) (by have := HB.out.size; simp; omega) h2); clear h1 h2))
        go_roundw
        case rel => exact ⟨k + 1, hlt, by go_num, by rw [HT.out]; exact H1.out, H2.out⟩
        case measure => simp [intOf]; omega
    · obtain rfl : k = l.length := by omega
      have hdk : decide ((l.length : Int) < (l.length : Int)) = false := by simp
      clear hb
      go_wp2_with fail
      refine (refunion_any _ (ownTo l n l.length) _ (Nat.le_trans HOL.out hlen) HO.out.sl).mono ?_
      rintro e w3 ⟨v3, rfl, ho3, hb3⟩
      have HO3 := Lib.hid (ho3.mono HB.out.size)
      have HB3 := Lib.hid (blThen HB.out hb3)
      clear ho3 hb3
      go_wp2
      go_ret
      exact ⟨_, rfl, HO3.out, HB3.out⟩

end Go.Proofs.Ytkgfpppbpjinaaa
