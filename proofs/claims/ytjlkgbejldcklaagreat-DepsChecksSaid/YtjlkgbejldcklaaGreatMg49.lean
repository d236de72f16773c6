/- Plain facts about dependencies that are parted and merged again. No program is named. -/
import Derived.Lib.BufferRead
import Derived.Laws.IdiomStrings
import Derived.Test.YtjlkgbejldcklaaGreatMg39
import Derived.Test.YtjlkgbejldcklaaGreatMg42
import Derived.Test.YtjlkgbejldcklaaGreatMg19
import Derived.Test.YtjlkgbejldcklaaGreatMg38
import Derived.Test.YtjlkgbejldcklaaGreatMg36
/- Bytes that came in: as a text, cut off, later. Conditions: none. -/
set_option linter.unusedVariables false
namespace Go.Proofs.YtjlkgbejldcklaaGreat
open S1
namespace SD
open Go.ChangeShapes Go.WideShapes Go.ChangeAt Go.RowKit Go.Joins Go.Deep

/-- Bytes that came in, as a text. -/
theorem bw_str {w : World} {g : Nat} {v : Value} {l : List UInt8} (h : S2.Bw w g v l) : (convert 23 9 v).run Tryz.prog w = .ok (.string ⟨l.toArray⟩) w := by
  obtain ⟨a, c, rfl, h0, h1, h2⟩ := h
  cases a with
  | none =>
    obtain ⟨rfl, rfl⟩ := h0 rfl
    exact Lib.run_convert_nil_bytes w 23 9 5 0 Tryz.underlying23 Tryz.underlying5 Tryz.underlying9
  | some p =>
    refine run_convert_bytes_back w 23 9 5 p c l Tryz.underlying23 Tryz.underlying5 Tryz.underlying9 fun j hj => ?_
    obtain ⟨o, ho, hc⟩ := h2 (by rintro rfl; simp at hj)
    simp only [Option.some.injEq] at ho
    subst ho
    rw [S2.add_plain]
    exact hc j _ (List.getElem?_eq_getElem hj)
theorem bw_cut {w : World} {g k : Nat} {a : Option Addr} {n c : Nat} {l : List UInt8} (h : S2.Bw w g (.slice a n c) l) (hk : k < l.length) : S2.Bw w g (.slice a k c) (l.take k) := by
  obtain ⟨a', c', hv, h0, h1, h2⟩ := h
  cases hv
  obtain ⟨o, ho, hc⟩ := h2 (by rintro rfl; simp at hk)
  subst ho
  have e : (l.take k).length = k := by simp; omega
  refine ⟨_, c, by rw [e], (fun h => by cases h), by rw [e]; omega, fun _ => ⟨o, rfl, fun j x hj => hc j x ?_⟩⟩
  have hj2 : j < (l.take k).length := (List.getElem?_eq_some_iff.1 hj).1
  rw [e] at hj2
  rw [List.getElem?_take] at hj
  rw [if_pos hj2] at hj
  exact hj
theorem bw_keep {w x : World} {g : Nat} {v : Value} {l : List UInt8} (h : S2.Bw w g v l) (hb : Below w.heap.size w x) : S2.Bw x g v l := by
  obtain ⟨a, c, hv, h0, h1, h2⟩ := h
  refine ⟨a, c, hv, h0, h1, fun hne => ?_⟩
  obtain ⟨o, ho, hc⟩ := h2 hne
  refine ⟨o, ho, fun j y hj => ?_⟩
  rw [hb.cell (World.block_lt_of_cell? _ _ (hc j y hj))]
  exact hc j y hj

end SD
end Go.Proofs.YtjlkgbejldcklaaGreat

/- Plain facts about dependencies that are parted and merged again. No program is named. -/
namespace Go.Proofs.YtjlkgbejldcklaaGreat
open S1
namespace SD

theorem getD_mem {d : Dd} {p : Int} {x : Int × List (Int × Int)} (hr : RisD p d) (hx : x ∈ d) : getD d x.1 = x.2 := by
  induction d generalizing p with
  | nil => cases hx
  | cons y d ih =>
    unfold getD
    rcases List.mem_cons.1 hx with rfl | hx
    · rw [if_pos rfl]
    · have h1 := (List.pairwise_cons.1 hr.2).1 x hx
      rw [if_neg (by omega)]
      exact ih (p := y.1) ⟨(List.pairwise_cons.1 hr.2).1, (List.pairwise_cons.1 hr.2).2⟩ hx
theorem mem_getD {d : Dd} {t : Int} {i : Int × Int} (h : i ∈ getD d t) : ∃ x ∈ d, x.1 = t ∧ i ∈ x.2 := by
  induction d with
  | nil => cases h
  | cons y d ih =>
    unfold getD at h
    by_cases e : y.1 = t
    · rw [if_pos e] at h
      exact ⟨y, List.mem_cons_self, e, h⟩
    · rw [if_neg e] at h
      obtain ⟨x, hx, h1, h2⟩ := ih h
      exact ⟨x, List.mem_cons_of_mem _ hx, h1, h2⟩
theorem sh_filter (d : Dd) (f : Int → Bool) (t : Int) : Sh (d.filter fun x => f x.1) t ↔ Sh d t ∧ f t = true := by
  constructor
  · rintro ⟨x, hx, rfl⟩
    obtain ⟨h1, h2⟩ := List.mem_filter.1 hx
    exact ⟨⟨x, h1, rfl⟩, h2⟩
  · rintro ⟨⟨x, hx, rfl⟩, h⟩
    exact ⟨x, List.mem_filter.2 ⟨hx, h⟩, rfl⟩
/-- A deps' parts, merged, are the deps. -/
theorem merge_id {d : Dd} {p : Int} (hr : RisD p d) (hs : SSD d) (L : List Dd) (hL : ∀ x, x ∈ L.flatten ↔ x ∈ d) : mergeD L = d := by
  obtain ⟨m1, m2, m3, m4⟩ := mergeD_facts (l := L) (p := p) (fun e he x hx => hr.1 x ((hL x).1 (List.mem_flatten.2 ⟨e, he, hx⟩)))
  have hsh : ∀ t, Sh L.flatten t ↔ Sh d t := fun t => ⟨fun ⟨x, hx, h⟩ => ⟨x, (hL x).1 hx, h⟩, fun ⟨x, hx, h⟩ => ⟨x, (hL x).2 hx, h⟩⟩
  refine dd_ext m1 hr m2 hs (fun t => (m3 t).trans (hsh t)) fun t i => (m4 t i).trans ?_
  constructor
  · rintro ⟨x, hx, rfl, hi⟩
    rw [getD_mem hr ((hL x).1 hx)]
    exact hi
  · intro hi
    obtain ⟨x, hx, rfl, hi2⟩ := mem_getD hi
    exact ⟨x, (hL x).2 hx, rfl, hi2⟩
def restD (d : Dd) (P : List Int) : List Int := (d.filter fun x => !P.any (· == x.1)).map fun x => x.1
theorem rest_any {d : Dd} {P : List Int} {x : Int × List (Int × Int)} (hx : x ∈ d) : (restD d P).any (· == x.1) = !P.any (· == x.1) := by
  have key : ∀ t : Int, (restD d P).any (· == t) = true ↔ Sh d t ∧ P.any (· == t) = false := by
    intro t
    unfold restD
    rw [List.any_eq_true]
    constructor
    · rintro ⟨u, hu, he⟩
      obtain ⟨y, hy, rfl⟩ := List.mem_map.1 hu
      obtain ⟨h1, h2⟩ := List.mem_filter.1 hy
      simp only [beq_iff_eq] at he
      subst he
      exact ⟨⟨y, h1, rfl⟩, by simpa using h2⟩
    · rintro ⟨⟨y, hy, rfl⟩, h⟩
      exact ⟨y.1, List.mem_map.2 ⟨y, List.mem_filter.2 ⟨hy, by simp [h]⟩, rfl⟩, by simp⟩
  have hsh : Sh d x.1 := ⟨x, hx, rfl⟩
  cases h : P.any (· == x.1)
  · rw [(key x.1).2 ⟨hsh, h⟩]; rfl
  · cases h2 : (restD d P).any (· == x.1)
    · rfl
    · have := ((key x.1).1 h2).2
      rw [h] at this
      cases this
theorem parts_merge {d : Dd} {p : Int} (hr : RisD p d) (hs : SSD d) (P : List Int) : mergeD [onlyD d P, onlyD d (restD d P)] = d := by
  refine merge_id hr hs _ fun x => ?_
  simp only [List.flatten_cons, List.flatten_nil, List.append_nil, List.mem_append]
  unfold onlyD
  rw [List.mem_filter, List.mem_filter]
  constructor
  · rintro (h | h) <;> exact h.1
  · intro h
    have e := rest_any (P := P) h
    rcases Bool.eq_false_or_eq_true (P.any (· == x.1)) with h2 | h2
    · exact .inl ⟨h, h2⟩
    · rw [h2] at e; exact .inr ⟨h, e⟩
theorem filter_two {α : Type} (f : α → Bool) : ∀ d : List α, (d.filter f).length + (d.filter fun x => !f x).length = d.length
  | [] => rfl
  | x :: d => by
    have h := filter_two f d
    rw [List.filter_cons, List.filter_cons]
    cases f x <;> simp <;> omega
theorem parts_len (d : Dd) (P : List Int) : (onlyD d P).length + (onlyD d (restD d P)).length = d.length := by
  have e : onlyD d (restD d P) = d.filter fun x => !P.any (· == x.1) := by
    unfold onlyD
    refine List.filter_congr fun x hx => ?_
    exact rest_any hx
  rw [e]
  unfold onlyD
  exact filter_two (fun x : Int × List (Int × Int) => P.any (· == x.1)) d
theorem without_twice (d : Dd) (X : List (Int × Int)) : withoutD (withoutD d X) X = withoutD d X := by
  unfold withoutD
  rw [List.map_map]
  refine List.map_congr_left fun x _ => ?_
  simp [List.filter_filter]
theorem without_len (d : Dd) (X : List (Int × Int)) : (withoutD d X).length = d.length := by simp [withoutD]
theorem without_none (d : Dd) (X : List (Int × Int)) (i : Int × Int) (hi : i ∈ X) : i ∉ allD (withoutD d X) := by
  unfold allD
  rw [mem_sortL, List.mem_flatMap]
  rintro ⟨y, hy, h⟩
  obtain ⟨x, hx, rfl⟩ := List.mem_map.1 hy
  have := (List.mem_filter.1 h).2
  simp at this
  exact this hi
theorem risD_map {d : Dd} {p : Int} (hr : RisD p d) (f : Int × List (Int × Int) → Int × List (Int × Int)) (hf : ∀ x, (f x).1 = x.1) : RisD p (d.map f) := by
  refine ⟨fun x hx => ?_, ?_⟩
  · obtain ⟨y, hy, rfl⟩ := List.mem_map.1 hx
    rw [hf]; exact hr.1 y hy
  · rw [List.pairwise_map]
    exact hr.2.imp fun h => by rw [hf, hf]; exact h
theorem idsN_map_le (f : Int × List (Int × Int) → Int × List (Int × Int)) (hf : ∀ x, (f x).2.length ≤ x.2.length) : ∀ d : Dd, idsN (d.map f) ≤ idsN d
  | [] => Nat.le_refl _
  | x :: d => by
    rw [List.map_cons, idsN_cons, idsN_cons]
    exact Nat.add_le_add (hf x) (idsN_map_le f hf d)
theorem idsN_without (d : Dd) (X : List (Int × Int)) : idsN (withoutD d X) ≤ idsN d := idsN_map_le _ (fun _ => List.length_filter_le _ _) d
theorem idsN_only : ∀ (d : Dd) (P : List Int), idsN (onlyD d P) ≤ idsN d
  | [], P => Nat.le_refl _
  | x :: d, P => by
    have h := idsN_only d P
    unfold onlyD at h ⊢
    rw [List.filter_cons, idsN_cons]
    split
    · rw [idsN_cons]; omega
    · omega
theorem without_check {d : Dd} (h : checkD d = 0) (X : List (Int × Int)) : checkD (withoutD d X) = 0 := by
  obtain ⟨h1, h2, h3⟩ := checkD_ok.1 h
  obtain ⟨f1, f2⟩ := depsF_facts h3
  refine checkD_ok.2 ⟨by rw [without_len]; exact h1, Nat.le_trans (idsN_without d X) h2, depsF_of (risD_map f1 _ fun _ => rfl) fun x hx => ?_⟩
  obtain ⟨y, hy, rfl⟩ := List.mem_map.1 hx
  obtain ⟨a, b, c⟩ := f2 y hy
  exact ⟨a, b.filter _, fun i hi => c i (List.mem_filter.1 hi).1⟩
theorem allD_len6 (d : Dd) : (allD d).length ≤ idsN d := by
  unfold allD
  refine Nat.le_trans (sortL_length _) ?_
  rw [List.length_flatMap]
  exact Nat.le_refl _

end SD
end Go.Proofs.YtjlkgbejldcklaaGreat
