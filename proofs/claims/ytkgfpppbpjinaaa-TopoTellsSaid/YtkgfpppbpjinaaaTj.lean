/- The shards of a node, by the program and by the reference; the reference's Nodes. Conditions: lists of at most a million. -/
import Derived.Test.YtkgfpppbpjinaaaTi
set_option linter.unusedVariables false
namespace Go.Proofs.Ytkgfpppbpjinaaa
open Go.RowKit

theorem any_one (l : List Sh) (i : Nat) (n : Int) : anyHas l [(i : Int)] n = shHas l i n := by
  simp [anyHas, atHas]
/-- Whether the program tells of a shard that it has a node. -/
def shHas' (l : List Sh) (n : Int) (i : Nat) : Bool := nodeB n && shHas l i n

set_option maxRecDepth 100000 in
set_option maxHeartbeats 1000000 in
theorem of_any (a : Option Addr) (c : Nat) (l : List Sh) (n : Int) (w : World) (hlen : l.length ≤ 1000000) (hn5 : ∀ s ∈ l, s.nodes.length ≤ 1000000) (ha : Hl w a l) :
    Calls Try.prog 22 #[.slice a l.length c, .int .i64 n] w (RetI w (ofTo (shHas' l n) l.length)) := by
  have HA := Lib.hid ha
  clear ha
  go_enter Try.func22, Try.ntmps22
  go_wp2
  go_loopw [5, 9] (fun v i wr => ∃ k : Nat, k ≤ l.length ∧ i = .int .i64 k ∧ OwnI wr w.heap.size v (ofTo (shHas' l n) k) ∧ Below w.heap.size w wr) (fun _ i _ => l.length - (intOf i).toNat)
  case atStart => exact ⟨0, Nat.zero_le _, rfl, OwnI.nil _ _, Below.refl _ _⟩
  case round =>
    obtain ⟨k, hk, rfl, ho, hb⟩ := hrel
    obtain ⟨av, cv, rfl⟩ := ho.form
    have HO := Lib.hid ho
    have HB := Lib.hid hb
    clear ho hb
    by_cases hlt : k < l.length
    · have hk0 : (0 : Int) ≤ (k : Int) := by omega
      have hk1 : (k : Int) < (l.length : Int) := by omega
      have hdk : decide ((k : Int) < (l.length : Int)) = true := decide_eq_true hk1
      have HL := Lib.hid (ofTo_len (shHas' l n) k)
      have HE : Hid ((nodeB n && anyHas l [(k : Int)] n) = shHas' l n k) := by show _ = _; rw [any_one]; rfl
      cases hf : shHas' l n k
      · have HF := Lib.hid hf
        have HX : Hid (ofTo (shHas' l n) (k + 1) = ofTo (shHas' l n) k) := by show _ = _; rw [ofTo_succ, hf]; simp
        clear hf
        go_wp2_with fail
        refine (keeps_any _ _ l n _ _ [(k : Int)] _ hlen (by simp) hn5 (HA.out.later (blAlloc HB.out _)) (one_newI wr _ _ rfl)).mono ?_
        rintro e w2 ⟨rfl, hb⟩
        rw [HE.out, HF.out]
        have hb2 := blThen (blAlloc (Below.refl wr.heap.size wr) (.cells #[.int .i64 (k : Int)] 3)) hb
        have HO2 := Lib.hid (HO.out.later hb2)
        have HB2 := Lib.hid (HB.out.trans (hb2.mono HB.out.size))
        clear hb hb2
        go_wp2
        go_roundw
        case rel => exact ⟨k + 1, hlt, by go_num, by rw [HX.out]; exact HO2.out, HB2.out⟩
        case measure => simp [intOf]; omega
      · have HF := Lib.hid hf
        have HX : Hid (ofTo (shHas' l n) (k + 1) = ofTo (shHas' l n) k ++ [(k : Int)]) := by show _ = _; rw [ofTo_succ, hf]; simp
        clear hf
        go_wp2_with fail
        refine (keeps_any _ _ l n _ _ [(k : Int)] _ hlen (by simp) hn5 (HA.out.later (blAlloc HB.out _)) (one_newI wr _ _ rfl)).mono ?_
        rintro e w2 ⟨rfl, hb⟩
        rw [HE.out, HF.out]
        have hb2 := blThen (blAlloc (Below.refl wr.heap.size wr) (.cells #[.int .i64 (k : Int)] 3)) hb
        have HO2 := Lib.hid (HO.out.later hb2)
        have HB2 := Lib.hid (HB.out.trans (hb2.mono HB.out.size))
        clear hb hb2
        go_wp2_with (at_builtin; refine append_i rfl _ _ rfl w.heap.size _ (ofTo (shHas' l n) k) rfl (HO2.out.later (blAlloc (Below.refl _ _) _)) _ _ _ [(k : Int)] rfl rfl (one_newI _ _ _ rfl) (by have := HL.out; simp; omega) (by have := HB2.out.size; simp; omega) ?_; intro v1 w3 h1 h2; have H1 := Lib.hid h1; have H2 := Lib.hid (grown_belowI (blAlloc HB2.out _) (HO2.out.later (blAlloc (Below.refl _ _) _)) (Nat.le_refl _) (by have := HB2.out.size; simp; omega) h2); clear h1 h2)
        go_roundw
        case rel => exact ⟨k + 1, hlt, by go_num, by rw [HX.out]; exact H1.out, H2.out⟩
        case measure => simp [intOf]; omega
    · obtain rfl : k = l.length := by omega
      have hdk : decide ((l.length : Int) < (l.length : Int)) = false := by simp
      go_wp2
      go_ret
      exact ⟨_, rfl, HO.out, HB.out⟩

set_option maxRecDepth 100000 in
set_option maxHeartbeats 1000000 in
theorem refof_any (a : Option Addr) (c : Nat) (l : List Sh) (n : Int) (w : World) (hlen : l.length ≤ 1000000) (hn5 : ∀ s ∈ l, s.nodes.length ≤ 1000000) (ha : Hl w a l) :
    Calls Try.prog 23 #[.slice a l.length c, .int .i64 n] w (RetI w (ofL l n)) := by
  have HA := Lib.hid ha
  have HN5 := Lib.hid hn5
  clear ha hn5
  go_enter Try.func23, Try.ntmps23
  go_wp2
  go_loopw [5, 6] (fun v i wr => ∃ k : Nat, k ≤ l.length ∧ i = .int .i64 k ∧ OwnI wr w.heap.size v (ofTo (fun i => shHas l i n) k) ∧ Below w.heap.size w wr) (fun _ i _ => l.length - (intOf i).toNat)
  case atStart => exact ⟨0, Nat.zero_le _, rfl, OwnI.nil _ _, Below.refl _ _⟩
  case round =>
    obtain ⟨k, hk, rfl, ho, hb⟩ := hrel
    obtain ⟨av, cv, rfl⟩ := ho.form
    have HO := Lib.hid ho
    have HB := Lib.hid hb
    clear ho
    by_cases hlt : k < l.length
    · obtain ⟨s, hs⟩ := at_lt hlt
      obtain ⟨g, o, rfl, hg, d0, d1, d2⟩ := HA.out.at hs
      have c2 := cell_in hb hg d2
      have hgw := Nat.lt_of_lt_of_le hg hb.size
      have hk0 : (0 : Int) ≤ (k : Int) := by omega
      have hk1 : (k : Int) < (l.length : Int) := by omega
      have hdk : decide ((k : Int) < (l.length : Int)) = true := decide_eq_true hk1
      have HIL := Lib.hid ((HA.out.1 s (List.mem_of_getElem? hs)).later hb)
      have HL5 := Lib.hid (HN5.out s (List.mem_of_getElem? hs))
      have HL := Lib.hid (ofTo_len (fun i => shHas l i n) k)
      have hsh := shHas_at hs n
      clear hs hb d0 d1 d2
      cases hf : hasN s.nodes n
      · have HF := Lib.hid hf
        have HX : Hid (ofTo (fun i => shHas l i n) (k + 1) = ofTo (fun i => shHas l i n) k) := by show _ = _; rw [ofTo_succ, hsh, hf]; simp
        clear hf hsh
        go_wp2_with (go_at_call 15; refine (refin_i _ _ s.nodes n _ HL5.out HIL.out).mono ?_; rintro r w2 ⟨rfl, rfl⟩; rw [HF.out])
        go_roundw
        case rel => exact ⟨k + 1, hlt, by go_num, by rw [HX.out]; exact HO.out, HB.out⟩
        case measure => simp [intOf]; omega
      · have HF := Lib.hid hf
        have HX : Hid (ofTo (fun i => shHas l i n) (k + 1) = ofTo (fun i => shHas l i n) k ++ [(k : Int)]) := by show _ = _; rw [ofTo_succ, hsh, hf]; simp
        clear hf hsh
        go_wp2_with (first
          | (go_at_call 15; refine (refin_i _ _ s.nodes n _ HL5.out HIL.out).mono ?_; rintro r w2 ⟨rfl, rfl⟩; rw [HF.out])
          | (at_builtin; refine append_i rfl _ _ rfl w.heap.size _ (ofTo (fun i => shHas l i n) k) rfl (HO.out.later (blAlloc (Below.refl _ _) _)) _ _ _ [(k : Int)] rfl rfl (one_newI _ _ _ rfl) (by have := HL.out; simp; omega) (by have := HB.out.size; simp; omega) ?_; intro v1 w3 h1 h2; have H1 := Lib.hid h1; have H2 := Lib.hid (grown_belowI (blAlloc HB.out _) (HO.out.later (blAlloc (Below.refl _ _) _)) (Nat.le_refl _) (by have := HB.out.size; simp; omega) h2); clear h1 h2))
        go_roundw
        case rel => exact ⟨k + 1, hlt, by go_num, by rw [HX.out]; exact H1.out, H2.out⟩
        case measure => simp [intOf]; omega
    · obtain rfl : k = l.length := by omega
      have hdk : decide ((l.length : Int) < (l.length : Int)) = false := by simp
      clear hb
      go_wp2
      go_ret
      exact ⟨_, rfl, HO.out, HB.out⟩

end Go.Proofs.Ytkgfpppbpjinaaa
