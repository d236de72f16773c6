/- DepsMerged: whatever three dependencies and stamp, the law returns true: merged in whatever order, however parted, with a part of themselves, they are the same. Conditions: none. -/
import Derived.Deep.RegionHeld3
import Derived.Test.YtjlkgbejldcklaaGreatMg49
import Derived.Test.YtjlkgbejldcklaaGreatMg50
import Derived.Test.YtjlkgbejldcklaaGreatMg38
/- DepsMerged: whatever three dependencies and stamp, the law returns true: merged in whatever order, however parted, with a part of themselves, they are the same. Conditions: none. -/
set_option linter.unusedVariables false
set_option linter.unusedSimpArgs false
namespace Go.Proofs.YtjlkgbejldcklaaGreat
open S1 SP
namespace SD
open Go.ChangeShapes Go.WideShapes Go.ChangeAt Go.RowKit Go.Joins Go.Deep

/-- Dependencies that may be, but for their number of stamps. -/
def Nice (d : Dd) : Prop := Good d ∧ RisD (-1) d ∧ SSD d ∧ idsN d ≤ 600 ∧ ∀ x ∈ d, ∀ i ∈ x.2, WfT i
theorem wfT_isS {i : Int × Int} (h : isS i = true) : WfT i := by
  have h2 : checkD [(0, [i])] = 0 := by
    refine checkD_ok.2 ⟨by simp, by simp [idsN], ?_⟩
    refine depsF_of (p := -1) ⟨by simp, by simp⟩ fun x hx => ?_
    simp only [List.mem_cons, List.mem_nil_iff, or_false] at hx
    subst hx
    refine ⟨by simp, by simp [SS], fun j hj => ?_⟩
    simp only [List.mem_cons, List.mem_nil_iff, or_false] at hj
    subst hj
    exact h
  exact (check_wf h2 (0, [i]) (by simp)).2.1 i (by simp)
theorem ite_no {b : Bool} [Decidable (b = true)] {p q : Prop} (h : b = false) (hq : q) : if b = true then p else q := by rw [if_neg (by rw [h]; decide)]; exact hq
theorem nice_of {d : Dd} (h : checkD d = 0) : Nice d := by
  obtain ⟨a, b, c, e⟩ := chk_good h
  exact ⟨a, b, c, Nat.le_trans (checkD_ok.1 h).2.1 (by decide), fun x hx i hi => wfT_isS (e x hx i hi)⟩
theorem nice_below {d : Dd} (h : Nice d) (s : Int × Int) : Nice (belowD d s) := by
  obtain ⟨a, b, c, e, f⟩ := h
  refine ⟨good_below a s, risD_map b _ fun _ => rfl, fun x hx => ?_, Nat.le_trans (idsN_below6 d s) e, fun x hx i hi => ?_⟩
  · obtain ⟨y, hy, rfl⟩ := List.mem_map.1 hx
    exact (c y hy).filter _
  · obtain ⟨y, hy, rfl⟩ := List.mem_map.1 hx
    exact f y hy i (List.mem_filter.1 hi).1
theorem nice_without {d : Dd} (h : Nice d) (X : List (Int × Int)) : Nice (withoutD d X) := by
  obtain ⟨a, b, c, e, f⟩ := h
  refine ⟨good_without a X, risD_map b _ fun _ => rfl, fun x hx => ?_, Nat.le_trans (idsN_without d X) e, fun x hx i hi => ?_⟩
  · obtain ⟨y, hy, rfl⟩ := List.mem_map.1 hx
    exact (c y hy).filter _
  · obtain ⟨y, hy, rfl⟩ := List.mem_map.1 hx
    exact f y hy i (List.mem_filter.1 hi).1
theorem nice_len {d : Dd} (h : Nice d) : d.length ≤ 8 := by
  have := ris_len h.2.1 (fun x hx => (h.1 x hx).2) (by omega)
  omega
theorem nice_few {l : List Dp} {d : Dd} (e : toD l = d) (h : Nice d) : FewD l ∧ idsN (toD l) ≤ 1000000 ∧ l.length ≤ 1000 := by
  subst e
  have h1 := nice_len h
  rw [toD_length] at h1
  have h2 := h.2.2.2.1
  refine ⟨⟨by omega, fun s hs => ?_⟩, by omega, by omega⟩
  have := idsN_mem (d := toD l) (x := s.d) (List.mem_map.2 ⟨s, hs, rfl⟩)
  have e : s.d.2.length = s.ids.length := rfl
  omega
theorem nice_wf {l : List Dp} {d : Dd} (e : toD l = d) (h : Nice d) : ∀ s ∈ l, ∀ i ∈ s.ids, WfT i := by
  subst e
  intro s hs i hi
  exact h.2.2.2.2 s.d (List.mem_map.2 ⟨s, hs, rfl⟩) i hi
theorem args2 {a b : Dd} (ha : Nice a) (hb : Nice b) : [a, b].flatten.length ≤ 1000 ∧ idsN [a, b].flatten ≤ 1000000 ∧ (∀ x ∈ [a, b].flatten, -1 < x.1) ∧ ∀ x ∈ [a, b].flatten, (Lit.int .i64 x.1).wf = true := by
  have hg := good_flat (good2 ha.1 hb.1)
  refine ⟨?_, ?_, fun x hx => (hg x hx).1, fun x hx => wf_small (by have := (hg x hx).1; omega) (by have := (hg x hx).2; omega)⟩
  · rw [flat2, List.length_append]
    have := nice_len ha; have := nice_len hb; omega
  · rw [flat2, idsN_append]
    have := ha.2.2.2.1; have := hb.2.2.2.1; omega
theorem args3 {a b c : Dd} (ha : Nice a) (hb : Nice b) (hc : Nice c) : [a, b, c].flatten.length ≤ 1000 ∧ idsN [a, b, c].flatten ≤ 1000000 ∧ (∀ x ∈ [a, b, c].flatten, -1 < x.1) ∧ ∀ x ∈ [a, b, c].flatten, (Lit.int .i64 x.1).wf = true := by
  have hg := good_flat (good3 ha.1 hb.1 hc.1)
  refine ⟨?_, ?_, fun x hx => (hg x hx).1, fun x hx => wf_small (by have := (hg x hx).1; omega) (by have := (hg x hx).2; omega)⟩
  · rw [flat3, List.length_append, List.length_append]
    have := nice_len ha; have := nice_len hb; have := nice_len hc; omega
  · rw [flat3, idsN_append, idsN_append]
    have := ha.2.2.2.1; have := hb.2.2.2.1; have := hc.2.2.2.1; omega
theorem rows2 {X : World} {a b : DRow} (ha : Dl X a.1 a.2.1) (hb : Dl X b.1 b.2.1) : ∀ r ∈ ([a, b] : List DRow), Dl X r.1 r.2.1 := by
  intro r hr
  simp only [List.mem_cons, List.mem_nil_iff, or_false] at hr
  rcases hr with rfl | rfl
  · exact ha
  · exact hb
theorem rows3 {X : World} {a b c : DRow} (ha : Dl X a.1 a.2.1) (hb : Dl X b.1 b.2.1) (hc : Dl X c.1 c.2.1) : ∀ r ∈ ([a, b, c] : List DRow), Dl X r.1 r.2.1 := by
  intro r hr
  simp only [List.mem_cons, List.mem_nil_iff, or_false] at hr
  rcases hr with rfl | rfl | rfl
  · exact ha
  · exact hb
  · exact hc

end SD
end Go.Proofs.YtjlkgbejldcklaaGreat
