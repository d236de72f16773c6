/- Plain facts about dependencies that are merged in whatever order, and with a part of themselves. No program is named. -/
import Derived.Test.YtjlkgbejldcklaaGreatMg47
/- Plain facts about dependencies that are merged in whatever order, and with a part of themselves. No program is named. -/
namespace Go.Proofs.YtjlkgbejldcklaaGreat
open S1
namespace SD

/-- Stamp i stands at shard t. -/
def Mem (d : Dd) (t : Int) (i : Int × Int) : Prop := ∃ x ∈ d, x.1 = t ∧ i ∈ x.2
theorem mem_append6 (a b : Dd) (t : Int) (i : Int × Int) : Mem (a ++ b) t i ↔ Mem a t i ∨ Mem b t i := by
  unfold Mem
  constructor
  · rintro ⟨x, hx, h⟩
    rcases List.mem_append.1 hx with h1 | h1
    · exact .inl ⟨x, h1, h⟩
    · exact .inr ⟨x, h1, h⟩
  · rintro (⟨x, hx, h⟩ | ⟨x, hx, h⟩)
    · exact ⟨x, List.mem_append_left _ hx, h⟩
    · exact ⟨x, List.mem_append_right _ hx, h⟩
theorem mem_nil6 (t : Int) (i : Int × Int) : ¬ Mem [] t i := fun ⟨x, h, _⟩ => by cases h
theorem mem_get {d : Dd} {p : Int} (hr : RisD p d) (t : Int) (i : Int × Int) : i ∈ getD d t ↔ Mem d t i := by
  constructor
  · intro h
    obtain ⟨x, hx, h1, h2⟩ := mem_getD h
    exact ⟨x, hx, h1, h2⟩
  · rintro ⟨x, hx, rfl, h⟩
    rw [getD_mem hr hx]
    exact h
/-- Deps that may be merged: shards from 0 to 7. -/
def Good (d : Dd) : Prop := ∀ x ∈ d, -1 < x.1 ∧ x.1 < 8
theorem good_flat {L : List Dd} (h : ∀ d ∈ L, Good d) : Good L.flatten := by
  intro x hx
  obtain ⟨d, hd, hx⟩ := List.mem_flatten.1 hx
  exact h d hd x hx
theorem merge_all {L : List Dd} (h : ∀ d ∈ L, Good d) : RisD (-1) (mergeD L) ∧ SSD (mergeD L) ∧ (∀ t, Sh (mergeD L) t ↔ Sh L.flatten t) ∧ (∀ t i, Mem (mergeD L) t i ↔ Mem L.flatten t i) ∧ Good (mergeD L) := by
  obtain ⟨m1, m2, m3, m4⟩ := mergeD_facts (l := L) (p := -1) (fun d hd x hx => (h d hd x hx).1)
  refine ⟨m1, m2, m3, fun t i => (mem_get m1 t i).symm.trans (m4 t i), fun x hx => ⟨m1.1 x hx, ?_⟩⟩
  obtain ⟨y, hy, e⟩ := (m3 x.1).1 ⟨x, hx, rfl⟩
  rw [← e]
  exact (good_flat h y hy).2
/-- What is merged is told by what stands where. -/
theorem merge_ext {L M : List Dd} (hL : ∀ d ∈ L, Good d) (hM : ∀ d ∈ M, Good d) (hs : ∀ t, Sh L.flatten t ↔ Sh M.flatten t) (hm : ∀ t i, Mem L.flatten t i ↔ Mem M.flatten t i) : mergeD L = mergeD M := by
  obtain ⟨a1, a2, a3, a4, _⟩ := merge_all hL
  obtain ⟨b1, b2, b3, b4, _⟩ := merge_all hM
  exact dd_ext a1 b1 a2 b2 (fun t => ((a3 t).trans (hs t)).trans (b3 t).symm) fun t i => ((mem_get a1 t i).trans (a4 t i)).trans ((hm t i).trans ((b4 t i).symm.trans (mem_get b1 t i).symm))
/-- What has nothing more adds nothing. -/
theorem merge_abs {d : Dd} (hr : RisD (-1) d) (hs : SSD d) {L : List Dd} (hL : ∀ e ∈ L, Good e) (h1 : ∀ t, Sh L.flatten t ↔ Sh d t) (h2 : ∀ t i, Mem L.flatten t i ↔ Mem d t i) : mergeD L = d := by
  obtain ⟨a1, a2, a3, a4, _⟩ := merge_all hL
  exact dd_ext a1 hr a2 hs (fun t => (a3 t).trans (h1 t)) fun t i => ((mem_get a1 t i).trans (a4 t i)).trans ((h2 t i).trans (mem_get hr t i).symm)
theorem mem_below (d : Dd) (s : Int × Int) (t : Int) (i : Int × Int) (h : Mem (belowD d s) t i) : Mem d t i := by
  obtain ⟨x, hx, h1, h2⟩ := h
  obtain ⟨y, hy, rfl⟩ := List.mem_map.1 hx
  exact ⟨y, hy, h1, (List.mem_filter.1 h2).1⟩
theorem sh_map (d : Dd) (f : Int × List (Int × Int) → Int × List (Int × Int)) (hf : ∀ x, (f x).1 = x.1) (t : Int) : Sh (d.map f) t ↔ Sh d t := by
  constructor
  · rintro ⟨x, hx, rfl⟩
    obtain ⟨y, hy, rfl⟩ := List.mem_map.1 hx
    exact ⟨y, hy, (hf y).symm⟩
  · rintro ⟨y, hy, rfl⟩
    exact ⟨f y, List.mem_map.2 ⟨y, hy, rfl⟩, hf y⟩
theorem good_map {d : Dd} (h : Good d) (f : Int × List (Int × Int) → Int × List (Int × Int)) (hf : ∀ x, (f x).1 = x.1) : Good (d.map f) := by
  intro x hx
  obtain ⟨y, hy, rfl⟩ := List.mem_map.1 hx
  rw [hf]
  exact h y hy
theorem mem_without (d : Dd) (X : List (Int × Int)) (t : Int) (i : Int × Int) (h : Mem (withoutD d X) t i) : Mem d t i := by
  obtain ⟨x, hx, h1, h2⟩ := h
  obtain ⟨y, hy, rfl⟩ := List.mem_map.1 hx
  exact ⟨y, hy, h1, (List.mem_filter.1 h2).1⟩
theorem mem_all6 (d : Dd) (i : Int × Int) : i ∈ allD d ↔ ∃ t, Mem d t i := by
  unfold allD
  rw [mem_sortL, List.mem_flatMap]
  constructor
  · rintro ⟨x, hx, h⟩; exact ⟨x.1, x, hx, rfl, h⟩
  · rintro ⟨t, x, hx, _, h⟩; exact ⟨x, hx, h⟩

theorem chk_good {d : Dd} (h : checkD d = 0) : Good d ∧ RisD (-1) d ∧ SSD d ∧ ∀ x ∈ d, ∀ i ∈ x.2, isS i = true := by
  obtain ⟨f1, f2⟩ := depsF_facts (checkD_ok.1 h).2.2
  exact ⟨fun x hx => ⟨f1.1 x hx, (f2 x hx).1⟩, f1, fun x hx => (f2 x hx).2.1, fun x hx => (f2 x hx).2.2⟩
theorem ris_len : ∀ {d : Dd} {p : Int}, RisD p d → (∀ x ∈ d, x.1 < 8) → p < 8 → (d.length : Int) ≤ 7 - p := by
  intro d
  induction d with
  | nil => intro p _ _ h; simp; omega
  | cons x d ih =>
    intro p hr h8 _
    have h1 := hr.1 x List.mem_cons_self
    have h2 := h8 x List.mem_cons_self
    have := ih (p := x.1) ⟨(List.pairwise_cons.1 hr.2).1, (List.pairwise_cons.1 hr.2).2⟩ (fun y hy => h8 y (List.mem_cons_of_mem _ hy)) h2
    rw [List.length_cons]
    omega
theorem ids_addD : ∀ (d : Dd) (s : Int) (l : List (Int × Int)), idsN (addD d s l) ≤ idsN d + l.length := by
  intro d s l
  induction d with
  | nil => rw [addD_nil, idsN_cons, idsN_nil]; have := sortL_length l; simp; omega
  | cons x r ih =>
    rw [addD_cons]
    split
    · rw [idsN_cons, idsN_cons]; omega
    · split
      · rw [idsN_cons, idsN_cons]
        have := sortL_length (x.2 ++ l)
        rw [List.length_append] at this
        simp only
        omega
      · rw [idsN_cons]
        have := sortL_length l
        simp only
        omega
theorem ids_joinD : ∀ (d acc : Dd), idsN (joinD acc d) ≤ idsN acc + idsN d := by
  intro d
  induction d with
  | nil => intro acc; simp [joinD, idsN_nil]
  | cons x d ih =>
    intro acc
    have h1 := ih (addD acc x.1 x.2)
    have h2 := ids_addD acc x.1 x.2
    have e : joinD acc (x :: d) = joinD (addD acc x.1 x.2) d := rfl
    rw [e, idsN_cons]
    omega
theorem ids_merge (L : List Dd) : idsN (mergeD L) ≤ idsN L.flatten := by
  rw [mergeD_flat]
  have := ids_joinD L.flatten []
  rw [idsN_nil] at this
  omega
theorem merge_check {L : List Dd} (h : ∀ d ∈ L, checkD d = 0) (hn : idsN L.flatten ≤ 512) : checkD (mergeD L) = 0 := by
  obtain ⟨m1, m2, m3, m4, m5⟩ := merge_all (L := L) fun d hd => (chk_good (h d hd)).1
  refine checkD_ok.2 ⟨?_, Nat.le_trans (ids_merge L) hn, depsF_of m1 fun x hx => ⟨(m5 x hx).2, m2 x hx, fun i hi => ?_⟩⟩
  · have := ris_len m1 (fun x hx => (m5 x hx).2) (by omega)
    omega
  · obtain ⟨y, hy, _, hi2⟩ := (m4 x.1 i).1 ⟨x, hx, rfl, hi⟩
    obtain ⟨d, hd, hy2⟩ := List.mem_flatten.1 hy
    exact (chk_good (h d hd)).2.2.2 y hy2 i hi2
theorem flat2 (a b : Dd) : [a, b].flatten = a ++ b := by simp
theorem flat3 (a b c : Dd) : [a, b, c].flatten = a ++ (b ++ c) := by simp
theorem good2 {a b : Dd} (ha : Good a) (hb : Good b) : ∀ d ∈ [a, b], Good d := by
  intro d hd
  simp only [List.mem_cons, List.mem_nil_iff, or_false] at hd
  rcases hd with rfl | rfl
  · exact ha
  · exact hb
theorem good3 {a b c : Dd} (ha : Good a) (hb : Good b) (hc : Good c) : ∀ d ∈ [a, b, c], Good d := by
  intro d hd
  simp only [List.mem_cons, List.mem_nil_iff, or_false] at hd
  rcases hd with rfl | rfl | rfl
  · exact ha
  · exact hb
  · exact hc
/-- Whatever order, however parted. -/
theorem merge_orders {a b c : Dd} (ha : Good a) (hb : Good b) (hc : Good c) : mergeD [c, mergeD [b, a]] = mergeD [a, b, c] := by
  obtain ⟨m1, m2, m3, m4, m5⟩ := merge_all (good2 hb ha)
  rw [flat2] at m3 m4
  refine merge_ext (good2 hc m5) (good3 ha hb hc) (fun t => ?_) fun t i => ?_
  · rw [flat2, flat3, sh_append, sh_append, sh_append, m3 t, sh_append]
    constructor
    · rintro (h | h | h)
      · exact .inr (.inr h)
      · exact .inr (.inl h)
      · exact .inl h
    · rintro (h | h | h)
      · exact .inr (.inr h)
      · exact .inr (.inl h)
      · exact .inl h
  · rw [flat2, flat3, mem_append6, mem_append6, mem_append6, m4 t i, mem_append6]
    constructor
    · rintro (h | h | h)
      · exact .inr (.inr h)
      · exact .inr (.inl h)
      · exact .inl h
    · rintro (h | h | h)
      · exact .inr (.inr h)
      · exact .inr (.inl h)
      · exact .inl h
theorem sh_below (d : Dd) (s : Int × Int) (t : Int) : Sh (belowD d s) t ↔ Sh d t := sh_map d (fun x => (x.1, x.2.filter fun i => ltS i s)) (fun _ => rfl) t
theorem sh_without (d : Dd) (X : List (Int × Int)) (t : Int) : Sh (withoutD d X) t ↔ Sh d t := sh_map d (fun x => (x.1, x.2.filter fun i => !X.contains i)) (fun _ => rfl) t
theorem good_below {d : Dd} (h : Good d) (s : Int × Int) : Good (belowD d s) := good_map h (fun x => (x.1, x.2.filter fun i => ltS i s)) fun _ => rfl
theorem good_without {d : Dd} (h : Good d) (X : List (Int × Int)) : Good (withoutD d X) := good_map h (fun x => (x.1, x.2.filter fun i => !X.contains i)) fun _ => rfl
/-- With a part of themselves, and one of those that were merged. -/
theorem merge_part {a b c : Dd} (ha : Good a) (hb : Good b) (hc : Good c) (s : Int × Int) : mergeD [mergeD [a, b, c], belowD (mergeD [a, b, c]) s, a] = mergeD [a, b, c] := by
  obtain ⟨m1, m2, m3, m4, m5⟩ := merge_all (good3 ha hb hc)
  rw [flat3] at m3 m4
  generalize mergeD [a, b, c] = x at *
  refine merge_abs m1 m2 (good3 m5 (good_below m5 s) ha) (fun t => ?_) fun t i => ?_
  · rw [flat3, sh_append, sh_append]
    refine ⟨?_, .inl⟩
    rintro (h | h | h)
    · exact h
    · exact (sh_below x s t).1 h
    · exact (m3 t).2 ((sh_append _ _ _).2 (.inl h))
  · rw [flat3, mem_append6, mem_append6]
    refine ⟨?_, .inl⟩
    rintro (h | h | h)
    · exact h
    · exact mem_below x s t i h
    · exact (m4 t i).2 ((mem_append6 _ _ _ _).2 (.inl h))
theorem merge_less {x : Dd} (hg : Good x) (hr : RisD (-1) x) (hs : SSD x) (X : List (Int × Int)) : mergeD [withoutD x X, x] = x := by
  refine merge_abs hr hs (good2 (good_without hg X) hg) (fun t => ?_) fun t i => ?_
  · rw [flat2, sh_append]
    refine ⟨?_, .inr⟩
    rintro (h | h)
    · exact (sh_without x X t).1 h
    · exact h
  · rw [flat2, mem_append6]
    refine ⟨?_, .inr⟩
    rintro (h | h)
    · exact mem_without x X t i h
    · exact h
theorem all_of {a b c : Dd} (ha : Good a) (hb : Good b) (hc : Good c) (i : Int × Int) (h : i ∈ allD (mergeD [a, b, c])) : i ∈ allD a ∨ i ∈ allD b ∨ i ∈ allD c := by
  obtain ⟨m1, m2, m3, m4, m5⟩ := merge_all (good3 ha hb hc)
  obtain ⟨t, ht⟩ := (mem_all6 _ _).1 h
  have := (m4 t i).1 ht
  rw [flat3, mem_append6, mem_append6] at this
  rcases this with h | h | h
  · exact .inl ((mem_all6 _ _).2 ⟨t, h⟩)
  · exact .inr (.inl ((mem_all6 _ _).2 ⟨t, h⟩))
  · exact .inr (.inr ((mem_all6 _ _).2 ⟨t, h⟩))
theorem idsN_below6 (d : Dd) (s : Int × Int) : idsN (belowD d s) ≤ idsN d := idsN_map_le _ (fun _ => List.length_filter_le _ _) d

end SD
end Go.Proofs.YtjlkgbejldcklaaGreat
