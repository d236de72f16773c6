/- The arguments of this stage's laws, opened: numbers, shards. Conditions: none. -/
import Derived.Test.YtopogdfmbdbimaaTq
import Derived.Test.YtopogdfmbdbimaaKv
import Derived.Test.YtopogdfmbdbimaaTg
set_option linter.unusedVariables false
namespace Go.Proofs.Ytopogdfmbdbimaa
open Go.ChangeShapes Go.WideShapes Go.ChangeAt Go.RowKit Go.Joins Go.Deep

theorem cells_int : Try.prog.cellsOf 3 = 1 := by kernel_rfl
theorem cellsSh : Try.prog.cellsOf 40 = 3 := by kernel_rfl
theorem cells_ints : Try.prog.cellsOf 23 = 1 := by kernel_rfl

section
variable {H : Type} {enc : TypeId × Value → H}
set_option maxRecDepth 100000 in
/-- Numbers, as a value's cells read. -/
theorem ints_cells {w : World} {cs : List Value} {fuel : Nat} {x : DataW H × List MemPlace} (hf' : DataW.trod enc Try.prog w 0 (fun _ => true) true fuel 23 cs = some x) :
    ∃ (a : Option Addr) (l : List Int) (cap : Nat), cs = [.slice a l.length cap] ∧ Il w a cap l ∧ l.length ≤ 9223372036854775807 ∧ ∀ n ∈ l, (Lit.int .i64 n).wf = true := by
  rcases open_ints Try.underlying23 Try.underlying3 cells_int hf' with ⟨hcs, _⟩ | ⟨a, len, cap, zs, hcs, _, hl, hm, hz, _, hcell, hwf⟩
  · exact ⟨none, [], 0, hcs, Il.nil w, Nat.zero_le _, fun n hn => by simp at hn⟩
  · subst hcs
    simp only [if_true] at hz
    unfold maxLen at hm
    have hlen : (zs.take len).length = len := by rw [List.length_take]; omega
    refine ⟨some a, zs.take len, cap, by rw [hlen], ⟨(fun h => by cases h), fun hne => ?_⟩, by rw [hlen]; omega, fun n hn => hwf n (List.mem_of_mem_take hn)⟩
    have hpos : 0 < len := by
      rcases Nat.eq_zero_or_pos len with h | h
      · subst h; simp at hne
      · exact h
    obtain ⟨b, o, rfl, hb, hx⟩ := at_addr (n := zs.length) hcell (by omega)
    refine ⟨b, o, rfl, hb, fun j x hj => ?_⟩
    have hjl : j < len := by
      have := (List.getElem?_eq_some_iff.1 hj).1
      omega
    rw [List.getElem?_take_of_lt hjl] at hj
    rw [hx j (by omega)]
    obtain ⟨h, rfl⟩ := List.getElem?_eq_some_iff.1 hj
    simp [List.getD, h]
set_option maxRecDepth 100000 in
/-- Numbers that came in. -/
theorem open_intl {r : Reach} {b0 : Nat} {w : World} {v : Value} {d : DataW H} {p : List MemPlace} (hv : Value.okWide Try.prog w r b0 23 v) (h : DataW.Trod enc Try.prog w 0 (fun _ => true) true 23 v d p) :
    ∃ (a : Option Addr) (l : List Int) (cap : Nat), v = .slice a l.length cap ∧ Il w a cap l ∧ l.length ≤ 9223372036854775807 := by
  obtain ⟨a0, len, cap, rfl⟩ := okWide_slice Try.underlying23 hv
  obtain ⟨fuel, hf⟩ := h
  have hf' : DataW.trod enc Try.prog w 0 (fun _ => true) true fuel 23 [.slice a0 len cap] = some (d, p) := by simpa [Value.cells] using hf
  obtain ⟨a, l, c, hcs, h1, h2, _⟩ := ints_cells hf'
  simp only [List.cons.injEq, Value.slice.injEq, and_true] at hcs
  obtain ⟨rfl, rfl, rfl⟩ := hcs
  exact ⟨a0, l, cap, rfl, h1, h2⟩
set_option maxRecDepth 100000 in
/-- Shards that came in. -/
theorem open_shards {r : Reach} {b0 : Nat} {w : World} {v : Value} {d : DataW H} {p : List MemPlace} (hv : Value.okWide Try.prog w r b0 22 v) (h : DataW.Trod enc Try.prog w 0 (fun _ => true) true 22 v d p) :
    ∃ (a : Option Addr) (l : List Sh) (cap : Nat), v = .slice a l.length cap ∧ Hl w a l ∧ l.length ≤ 9223372036854775807 := by
  obtain ⟨a0, len0, cap0, rfl⟩ := okWide_slice Try.underlying22 hv
  obtain ⟨fuel, hf⟩ := h
  have hf' : DataW.trod enc Try.prog w 0 (fun _ => true) true fuel 22 [.slice a0 len0 cap0] = some (d, p) := by simpa [Value.cells] using hf
  rcases open_slice Try.underlying22 hf' with ⟨hcs, _⟩ | ⟨a, len, cap, m, n, D, Pl, hcs, _, hl, hm, hmm, hx, hi⟩
  · simp only [List.cons.injEq, Value.slice.injEq, and_true] at hcs
    obtain ⟨rfl, rfl, rfl⟩ := hcs
    exact ⟨none, [], 0, rfl, ⟨fun s h => (by cases h), fun h => absurd rfl h⟩, Nat.zero_le _⟩
  · simp only [List.cons.injEq, Value.slice.injEq, and_true] at hcs
    obtain ⟨rfl, rfl, rfl⟩ := hcs
    simp only [if_true] at hmm
    subst hmm
    have hone : ∀ i, i < len0 → ∃ q : Sh, w.cell? (a.add (i * 3)) = some (.string q.sp.1) ∧ w.cell? ((a.add (i * 3)).add 1) = some (.string q.sp.2) ∧ w.cell? ((a.add (i * 3)).add 2) = some (.slice q.na q.nodes.length q.nc) ∧ Il w q.na q.nc q.nodes := by
      intro i hlt
      obtain ⟨cs', hc, ht⟩ := hi i (by omega)
      rw [cellsSh] at hc
      obtain ⟨_, hlen, hat⟩ := World.cells?_some hc
      match cs', hlen with
      | [c0, c1, c2], _ =>
        obtain ⟨y0, y1, k, _, _, h0, h1⟩ := trod_struct2 Try.underlying40 ht
        have e0 : DataW.trod enc Try.prog w 0 (fun _ => true) true k 38 [c0, c1] = some y0 := by simpa [cellsSp] using h0
        have e1 : DataW.trod enc Try.prog w 0 (fun _ => true) true k 23 [c2] = some y1 := by simpa [cells_ints] using h1
        obtain ⟨z0, z1, k2, _, _, g0, g1⟩ := trod_struct2 Try.underlying38 e0
        have f0 : DataW.trod enc Try.prog w 0 (fun _ => true) true k2 9 [c0] = some z0 := by simpa [cells_str] using g0
        have f1 : DataW.trod enc Try.prog w 0 (fun _ => true) true k2 9 [c1] = some z1 := by simpa [cells_str] using g1
        obtain ⟨x, hx0, _, _⟩ := DataW.trod_string Try.underlying9 f0
        obtain ⟨y, hy0, _, _⟩ := DataW.trod_string Try.underlying9 f1
        obtain ⟨na, nl, nc, hn0, hn1, _⟩ := ints_cells e1
        simp only [List.cons.injEq, and_true] at hx0 hy0 hn0
        subst hx0 hy0 hn0
        exact ⟨⟨(x, y), na, nc, nl⟩, by simpa [Addr.add] using hat 0 (by omega), hat 1 (by omega), hat 2 (by omega), hn1⟩
    obtain ⟨f, hf2⟩ : ∃ f : Nat → Sh, ∀ i, i < len0 → w.cell? (a.add (i * 3)) = some (.string (f i).sp.1) ∧ w.cell? ((a.add (i * 3)).add 1) = some (.string (f i).sp.2) ∧ w.cell? ((a.add (i * 3)).add 2) = some (.slice (f i).na (f i).nodes.length (f i).nc) ∧ Il w (f i).na (f i).nc (f i).nodes :=
      ⟨fun i => if h : i < len0 then Classical.choose (hone i h) else ⟨(⟨#[]⟩, ⟨#[]⟩), none, 0, []⟩, fun i hlt => by simp only [hlt, dif_pos]; exact Classical.choose_spec (hone i hlt)⟩
    have hlen : ((List.range len0).map f).length = len0 := by simp
    have hat : ∀ (j : Nat) (s : Sh), ((List.range len0).map f)[j]? = some s → j < len0 ∧ s = f j := by
      intro j s hj
      have hjl : j < len0 := by
        have := (List.getElem?_eq_some_iff.1 hj).1
        simpa using this
      exact ⟨hjl, by simpa [List.getElem?_map, List.getElem?_range, hjl, eq_comm] using hj⟩
    unfold maxLen at hm
    refine ⟨some a, (List.range len0).map f, m, by rw [hlen], ⟨fun s hs => ?_, fun hne => ?_⟩, by rw [hlen]; omega⟩
    · obtain ⟨j, hj, rfl⟩ := List.mem_iff_getElem.1 hs
      obtain ⟨hjl, e⟩ := hat j _ (List.getElem?_eq_getElem hj)
      rw [e]
      exact (hf2 j hjl).2.2.2
    · have h0 : 0 < len0 := by
        rcases Nat.eq_zero_or_pos len0 with h | h
        · subst h
          exact absurd rfl hne
        · exact h
      have h00 := (hf2 0 h0).1
      have e : a.add (0 * 3) = a := by rw [Nat.zero_mul]; unfold Addr.add; split <;> simp_all
      rw [e] at h00
      obtain ⟨b, o, rfl⟩ := addr_plain h00
      refine ⟨b, o, rfl, World.block_lt_of_cell? _ _ h00, fun i s hi' => ?_⟩
      obtain ⟨hil, rfl⟩ := hat i s hi'
      obtain ⟨g0, g1, g2, _⟩ := hf2 i hil
      rw [Go.WideShapes.add_plain] at g0
      rw [Go.WideShapes.add_plain, Go.WideShapes.add_plain] at g1 g2
      exact ⟨g0, g1, g2⟩
end

end Go.Proofs.Ytopogdfmbdbimaa
