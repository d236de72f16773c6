/- Whether the spans of shards lie one behind the other; Check of the program. Conditions: a topology of less than 2^63 shards. -/
import Derived.Test.YtkgfpppbpjinaaaTc
set_option linter.unusedVariables false
namespace Go.Proofs.Ytkgfpppbpjinaaa
open Go.RowKit

theorem row_drop {l : List Sh} {k : Nat} {s : Sh} (h : l[k]? = some s) (x : ByteArray) : rowF x ((spans l).drop k) = ((s.sp.1.toList == x.toList) && ((decide (k + 1 = l.length) || (ltT s.sp.1 s.sp.2 && decide (s.sp.2.size ≤ 16))) && rowF s.sp.2 ((spans l).drop (k + 1)))) := by
  obtain ⟨h1, rfl⟩ := List.getElem?_eq_some_iff.1 h
  have hl : (spans l).length = l.length := by simp [spans]
  rw [List.drop_eq_getElem_cons (by rw [hl]; exact h1)]
  have e : ((spans l).drop (k + 1)).isEmpty = decide (k + 1 = l.length) := by
    rw [Bool.eq_iff_iff, List.isEmpty_iff, List.drop_eq_nil_iff, hl, decide_eq_true_eq]
    omega
  rw [rowF, e]
  have e2 : (spans l)[k]'(by rw [hl]; exact h1) = l[k].sp := by simp [spans]
  rw [e2]
/-- Of the shards' spans the first k lie one behind the other, up to x. -/
def RowAt (l : List Sh) (k : Nat) (x : ByteArray) : Prop := rowF ⟨#[]⟩ (spans l) = rowF x ((spans l).drop k)
theorem rowAt_bad {l : List Sh} {k : Nat} {x : ByteArray} {s : Sh} (h : RowAt l k x) (hs : l[k]? = some s) (h1 : (s.sp.1.toList == x.toList) = false) : rowF ⟨#[]⟩ (spans l) = false := by
  rw [show rowF ⟨#[]⟩ (spans l) = _ from h, row_drop hs, h1]
  rfl
theorem rowAt_low {l : List Sh} {k : Nat} {x : ByteArray} {s : Sh} (h : RowAt l k x) (hs : l[k]? = some s) (h1 : ¬ k + 1 = l.length) (h2 : ltT s.sp.1 s.sp.2 = false ∨ 16 < s.sp.2.size) : rowF ⟨#[]⟩ (spans l) = false := by
  rw [show rowF ⟨#[]⟩ (spans l) = _ from h, row_drop hs]
  have e : (ltT s.sp.1 s.sp.2 && decide (s.sp.2.size ≤ 16)) = false := by
    rcases h2 with h2 | h2
    · rw [h2]; rfl
    · rw [decide_eq_false (by omega)]; simp
  rw [e, decide_eq_false h1]
  simp
theorem rowAt_next {l : List Sh} {k : Nat} {s : Sh} (h : RowAt l k s.sp.1) (hs : l[k]? = some s) (h1 : k + 1 = l.length ∨ (ltT s.sp.1 s.sp.2 = true ∧ s.sp.2.size ≤ 16)) : RowAt l (k + 1) s.sp.2 := by
  unfold RowAt
  rw [show rowF ⟨#[]⟩ (spans l) = _ from h, row_drop hs]
  have e : (decide (k + 1 = l.length) || (ltT s.sp.1 s.sp.2 && decide (s.sp.2.size ≤ 16))) = true := by
    rcases h1 with h1 | ⟨h1, h2⟩
    · rw [decide_eq_true h1]; rfl
    · rw [h1, decide_eq_true h2]; simp
  rw [e]
  simp
theorem rowAt_end {l : List Sh} {k : Nat} {x : ByteArray} (h : RowAt l k x) (hk : l.length ≤ k) : rowF ⟨#[]⟩ (spans l) = noT x := by
  rw [show rowF ⟨#[]⟩ (spans l) = _ from h, List.drop_eq_nil_of_le (by simpa [spans] using hk)]
  rfl
theorem le_iff (a b : ByteArray) : (Op.bytesLess b.toList a.toList || b.toList == a.toList) = !ltT a b := by
  show (ltT b a || b.toList == a.toList) = _
  cases h : ltT a b
  · cases h2 : ltT b a
    · rw [lt_total h h2]; simp
    · simp
  · rw [lt_asymm h]
    have : b.toList ≠ a.toList := by
      intro e
      rw [text_ext e, lt_irrefl] at h
      cases h
    simp [this]

set_option maxRecDepth 100000 in
set_option maxHeartbeats 2000000 in
theorem isRow_any (a : Option Addr) (c : Nat) (l : List Sh) (w : World) (hlen : l.length ≤ 1000000) (ha : Hl w a l) :
    Calls Try.prog 32 #[.slice a l.length c] w fun e w' => e = .returned (.bool (rowF ⟨#[]⟩ (spans l))) ∧ Below w.heap.size w w' := by
  have HA := Lib.hid ha
  clear ha
  generalize hv : rowF ⟨#[]⟩ (spans l) = v
  have HV := Lib.hid hv
  clear hv
  go_enter Try.func32, Try.ntmps32
  go_wp2
  go_loopw [3, 9] (fun f i wr => ∃ (k : Nat) (x : ByteArray), k ≤ l.length ∧ i = .int .i64 k ∧ f = .string x ∧ RowAt l k x ∧ Below w.heap.size w wr) (fun _ i _ => l.length - (intOf i).toNat)
  case atStart => exact ⟨0, _, Nat.zero_le _, rfl, rfl, rfl, Below.refl _ _⟩
  case round =>
    obtain ⟨k, x, hk, rfl, rfl, hr, hb⟩ := hrel
    by_cases hlt : k < l.length
    · obtain ⟨s, hs⟩ := at_lt hlt
      obtain ⟨g, o, rfl, hg, d0, d1, d2⟩ := HA.out.at hs
      have c0 := cell_in hb hg d0
      have c1 := cell_in hb hg d1
      have c2 := cell_in hb hg d2
      have hgw := Nat.lt_of_lt_of_le hg hb.size
      have hk0 : (0 : Int) ≤ (k : Int) := by omega
      have hk1 : (k : Int) < (l.length : Int) := by omega
      have hdk : decide ((k : Int) < (l.length : Int)) = true := decide_eq_true hk1
      have HS := Lib.hid hs
      have HR := Lib.hid hr
      have HB := Lib.hid hb
      clear hs hr hb d0 d1 d2
      cases h1 : (s.sp.1.toList == x.toList)
      · have HF := Lib.hid (rowAt_bad HR.out HS.out h1)
        go_wp2
        go_ret
        exact ⟨ret_bool (HF.out.symm.trans HV.out), blAlloc HB.out _⟩
      · obtain rfl : s.sp.1 = x := text_ext (by simpa using h1)
        clear h1
        by_cases hl : k + 1 = l.length
        · have HX := Lib.hid (rowAt_next HR.out HS.out (.inl hl))
          have hlast : ((k : Int) == (l.length : Int) - 1) = true := by simp; omega
          clear hl
          go_wp2
          go_roundw
          case rel => exact ⟨k + 1, s.sp.2, hlt, by go_num, rfl, HX.out, blAlloc HB.out _⟩
          case measure => simp [intOf]; omega
        · have hlast : ((k : Int) == (l.length : Int) - 1) = false := by simp; omega
          cases h2 : ltT s.sp.1 s.sp.2
          · have HF := Lib.hid (rowAt_low HR.out HS.out hl (.inl h2))
            have hle : (Op.bytesLess s.sp.2.toList s.sp.1.toList || s.sp.2.toList == s.sp.1.toList) = true := by rw [le_iff, h2]; rfl
            clear hl h2
            go_wp2
            go_ret
            exact ⟨ret_bool (HF.out.symm.trans HV.out), blAlloc HB.out _⟩
          · have hle : (Op.bytesLess s.sp.2.toList s.sp.1.toList || s.sp.2.toList == s.sp.1.toList) = false := by rw [le_iff, h2]; rfl
            by_cases h3 : 16 < s.sp.2.size
            · have HF := Lib.hid (rowAt_low HR.out HS.out hl (.inr h3))
              have hd3 : decide ((16 : Int) < (s.sp.2.size : Int)) = true := decide_eq_true (by omega)
              clear hl h2 h3
              go_wp2
              go_ret
              exact ⟨ret_bool (HF.out.symm.trans HV.out), blAlloc HB.out _⟩
            · have HX := Lib.hid (rowAt_next HR.out HS.out (.inr ⟨h2, by omega⟩))
              have hd3 : decide ((16 : Int) < (s.sp.2.size : Int)) = false := decide_eq_false (by omega)
              clear hl h2 h3
              go_wp2
              go_roundw
              case rel => exact ⟨k + 1, s.sp.2, hlt, by go_num, rfl, HX.out, blAlloc HB.out _⟩
              case measure => simp [intOf]; omega
    · have HF := Lib.hid (rowAt_end hr (by omega))
      have hdk : decide ((k : Int) < (l.length : Int)) = false := decide_eq_false (by omega)
      have HB := Lib.hid hb
      clear hr hb
      go_wp2
      go_ret
      exact ⟨ret_bool (HF.out.symm.trans HV.out), HB.out⟩

end Go.Proofs.Ytkgfpppbpjinaaa
