/- Texts that came in are within the form's own reach. Conditions: none. -/
import Derived.Test.YtjojjpfjennnoaaFw
namespace Go.Proofs.Ytjojjpfjennnoaa
open Go.ChangeShapes Go.WideShapes Go.ChangeAt Go.RowKit Go.Joins Go.Deep

section
variable {H : Type} {enc : TypeId × Value → H}
theorem weightsAll_mem {P : Program} {e : TypeId} {d : DataW H} {n : Nat} (hn : n ∈ d.weights P e) : ∀ {l : List (DataW H)}, d ∈ l → n ∈ DataW.weightsAll P e l
  | x :: r, h => by
    unfold DataW.weightsAll
    rcases List.mem_cons.1 h with rfl | h
    · exact List.mem_append_left _ hn
    · exact List.mem_append_right _ (weightsAll_mem hn h)
theorem weights_elem {P : Program} {t e : TypeId} (ht : P.underlying t = some (.slice e)) {elems spare : List (DataW H)} {d : DataW H} (hd : d ∈ elems) {n : Nat} (hn : n ∈ d.weights P e) : n ∈ (DataW.slice elems spare : DataW H).weights P t := by
  simp only [DataW.weights, ht]
  exact List.mem_cons_of_mem _ (List.mem_append_left _ (weightsAll_mem hn hd))
theorem reach_of {P : Program} {ts : List TypeId} {ds : List (DataW H)} (hsz : (DataW.weightsEach P ts ds).all (· ≤ reachBytes) = true) {j : Nat} {t : TypeId} {d : DataW H} (ht : ts[j]? = some t) (hd : ds[j]? = some d) {n : Nat} (hn : n ∈ d.weights P t) : n ≤ 140737488355328 := by
  have h1 := List.all_eq_true.1 hsz n (DataW.weights_mem_each ht hd n hn)
  have h2 := reachBytes_lt
  have h3 : n ≤ reachBytes := by simpa using h1
  omega
/-- Texts that came in, none longer than the reach. -/
theorem open_texts_r {r : Reach} {b0 : Nat} {w : World} {v : Value} {d : DataW H} {p : List MemPlace} (hv : Value.okWide Try.prog w r b0 24 v) (h : DataW.Trod enc Try.prog w 0 (fun _ => true) true 24 v d p)
    {ts : List TypeId} {ds : List (DataW H)} (hsz : (DataW.weightsEach Try.prog ts ds).all (· ≤ reachBytes) = true) {j : Nat} (ht : ts[j]? = some 24) (hd : ds[j]? = some d) :
    ∃ (a : Option Addr) (l : List ByteArray) (cap g : Nat), v = .slice a l.length cap ∧ l.length ≤ maxLen ∧ (∀ (j : Nat) (s : ByteArray), l[j]? = some s → s.size ≤ 140737488355328) ∧ TL w g a l ∧ (l ≠ [] → g < w.heap.size) := by
  obtain ⟨a0, len, cap, rfl⟩ := okWide_slice Try.underlying24 hv
  obtain ⟨fuel, hf⟩ := h
  have hf' : DataW.trod enc Try.prog w 0 (fun _ => true) true fuel 24 [.slice a0 len cap] = some (d, p) := by simpa [Value.cells] using hf
  rcases open_strs Try.underlying24 Try.underlying9 cells_str hf' with ⟨hcs, _⟩ | ⟨a, len', cap', m, S, hcs, _, hl, hm, hmm, hx0, hcell⟩
  · simp only [List.cons.injEq, Value.slice.injEq, and_true] at hcs
    obtain ⟨rfl, rfl, rfl⟩ := hcs
    exact ⟨none, [], 0, 0, rfl, Nat.zero_le _, fun j s h => by simp at h, fun h => absurd rfl h, fun h => absurd rfl h⟩
  · simp only [List.cons.injEq, Value.slice.injEq, and_true] at hcs
    obtain ⟨rfl, rfl, rfl⟩ := hcs
    simp only [if_true] at hmm
    subst hmm
    simp only [Prod.mk.injEq] at hx0
    obtain ⟨rfl, _⟩ := hx0
    have hlen : ((List.range len).map S).length = len := by simp
    have hat : ∀ (j : Nat) (s : ByteArray), ((List.range len).map S)[j]? = some s → j < len ∧ s = S j := by
      intro j s hj
      have hjl : j < len := by
        have := (List.getElem?_eq_some_iff.1 hj).1
        simpa using this
      exact ⟨hjl, by simpa [List.getElem?_map, List.getElem?_range, hjl, eq_comm] using hj⟩
    have hre : ∀ i, i < len → (S i).size ≤ 140737488355328 := by
      intro i hi
      have h1 : (S i).data.toList.length ∈ (DataW.lit (.string (S i).data.toList) : DataW H).weights Try.prog 9 := by simp [DataW.weights]
      have h2 := reach_of hsz ht hd (weights_elem Try.underlying24 (List.mem_map.2 ⟨i, List.mem_range.2 hi, rfl⟩) h1)
      rwa [ba_len] at h2
    by_cases hz0 : len = 0
    · subst hz0
      exact ⟨some a, [], m, 0, rfl, Nat.zero_le _, fun j s h => by simp at h, fun h => absurd rfl h, fun h => absurd rfl h⟩
    · obtain ⟨b, o, rfl, hb, hx⟩ := at_addr (n := m) (fun i hi => (hcell i hi).1) (by omega)
      refine ⟨_, (List.range len).map S, m, b, by rw [hlen], by rw [hlen]; omega, fun j s hj => ?_, fun _ => ⟨o, rfl, fun j s hj => ?_⟩, fun _ => hb⟩
      · obtain ⟨hjl, rfl⟩ := hat j s hj
        exact hre j hjl
      · obtain ⟨hjl, rfl⟩ := hat j s hj
        exact hx j (by omega)
end

/-- How many bytes texts have. -/
def szL : List ByteArray → Nat
  | [] => 0
  | s :: r => s.size + szL r
theorem szL_append (l m : List ByteArray) : szL (l ++ m) = szL l + szL m := by
  induction l with
  | nil => simp [szL]
  | cons s r ih => rw [List.cons_append]; simp only [szL]; omega
theorem szL_take (l : List ByteArray) {j : Nat} {s : ByteArray} (h : l[j]? = some s) : szL (l.take (j + 1)) = szL (l.take j) + s.size := by
  obtain ⟨hj, rfl⟩ := List.getElem?_eq_some_iff.1 h
  rw [List.take_succ_eq_append_getElem hj, szL_append]
  simp [szL]
theorem szL_mem (l : List ByteArray) {j : Nat} {s : ByteArray} (h : l[j]? = some s) : s.size ≤ szL l := by
  induction l generalizing j with
  | nil => simp at h
  | cons x r ih =>
    cases j with
    | zero => simp only [List.getElem?_cons_zero, Option.some.injEq] at h; subst h; simp only [szL]; omega
    | succ j => have := ih (j := j) (by simpa using h); simp only [szL]; omega
theorem szL_le (l : List ByteArray) (B : Nat) (h : ∀ (j : Nat) (s : ByteArray), l[j]? = some s → s.size ≤ B) : szL l ≤ B * l.length := by
  induction l with
  | nil => simp [szL]
  | cons x r ih =>
    have h1 := h 0 x rfl
    have h2 := ih fun j s hj => h (j + 1) s (by simpa using hj)
    simp only [szL, List.length_cons, Nat.mul_succ]
    omega
theorem txSum_sz (l : List ByteArray) : txSum l = 4 * l.length + szL l := by
  induction l with
  | nil => rfl
  | cons x r ih => simp only [txSum, szL, List.length_cons, ih]; omega

end Go.Proofs.Ytjojjpfjennnoaa
