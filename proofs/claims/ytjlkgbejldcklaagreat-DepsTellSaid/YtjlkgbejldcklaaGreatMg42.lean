/- live of the laws of dependencies: the helpers. Conditions: as each theorem states. -/
import Derived.Test.YtjlkgbejldcklaaGreatMg40
import Derived.Test.YtjlkgbejldcklaaGreatMg41
import Derived.Test.YtjlkgbejldcklaaGreatMg38
/- live of the laws of dependencies: the helpers. Conditions: as each theorem states. -/
set_option linter.unusedVariables false
namespace Go.Proofs.YtjlkgbejldcklaaGreat
open S1 SP
namespace SD
open Go.RowKit

/-- Merge, its conditions told of the dependencies alone. -/
theorem pmergeD_any (A : Option Addr) (cp : Nat) (rs : List DRow) (Ls : List Dd) (p : Int) (w : World) (hL : (rs.map fun r => toD r.2.1) = Ls) (h1 : Ls.flatten.length ≤ 1000) (h2 : rs.length ≤ 1000000) (h3 : idsN Ls.flatten ≤ 1000000) (h4 : ∀ x ∈ Ls.flatten, p < x.1) (h5 : ∀ x ∈ Ls.flatten, (Lit.int .i64 x.1).wf = true) (hl : Dls w A rs) :
    Calls Tryz.prog 25 #[.slice A rs.length cp] w (RetD w (mergeD Ls)) := by
  have e := flat_toD rs
  rw [hL] at e
  rw [e] at h1 h3 h4 h5
  rw [← hL]
  exact pmerge_any A cp rs p w (by rwa [toD_length] at h1) h2 h3 (fun s hs => h4 s.d (List.mem_map.2 ⟨s, hs, rfl⟩)) (fun s hs => h5 s.d (List.mem_map.2 ⟨s, hs, rfl⟩)) hl
/-- Lists of Deps that have just been put into a row. -/
theorem dls_new (X : World) (rs : List DRow) (n : Nat) (hn : X.heap.size = n) (h : ∀ r ∈ rs, Dl X r.1 r.2.1) : Dls (X.alloc (.cells (rs.map drV).toArray 22)) (some ⟨n, 0, none⟩) rs := by
  subst hn
  refine ⟨fun r hr => (h r hr).later (blAlloc (Below.refl _ _) _), fun _ => ⟨X.heap.size, 0, rfl, by simp, fun i r hi => ?_⟩⟩
  have hb : (X.alloc (.cells (rs.map drV).toArray 22)).heap[X.heap.size]? = some (.cells (rs.map drV).toArray 22 (0, 0)) := by
    show (X.heap.push _)[X.heap.size]? = _
    simp
  simp only [World.cell?, hb]
  simp [hi]
theorem sl_dir {X : World} {N : Nat} {t n : Int} (h0 : X.cell? ⟨N, 0, none⟩ = some (.int .i64 t)) (h1 : X.cell? ⟨N, 1, none⟩ = some (.int .i64 n)) (hN : N < X.heap.size) : SL X (some ⟨N, 0, none⟩) [(t, n)] := fun _ => ⟨N, 0, rfl, hN, fun i x y hi => by
  cases i with
  | zero =>
    simp only [List.getElem?_cons_zero, Option.some.injEq, Prod.mk.injEq] at hi
    obtain ⟨rfl, rfl⟩ := hi
    exact ⟨h0, h1⟩
  | succ i => simp at hi⟩
theorem sl_dir2 {X : World} {N : Nat} {t n t2 n2 : Int} (h0 : X.cell? ⟨N, 0, none⟩ = some (.int .i64 t)) (h1 : X.cell? ⟨N, 1, none⟩ = some (.int .i64 n)) (h2 : X.cell? ⟨N, 2, none⟩ = some (.int .i64 t2)) (h3 : X.cell? ⟨N, 3, none⟩ = some (.int .i64 n2)) (hN : N < X.heap.size) : SL X (some ⟨N, 0, none⟩) [(t, n), (t2, n2)] := fun _ => ⟨N, 0, rfl, hN, fun i x y hi => by
  match i, hi with
  | 0, hi =>
    simp only [List.getElem?_cons_zero, Option.some.injEq, Prod.mk.injEq] at hi
    obtain ⟨rfl, rfl⟩ := hi
    exact ⟨h0, h1⟩
  | 1, hi =>
    simp only [List.getElem?_cons_succ, List.getElem?_cons_zero, Option.some.injEq, Prod.mk.injEq] at hi
    obtain ⟨rfl, rfl⟩ := hi
    exact ⟨h2, h3⟩
  | i + 2, hi => simp at hi⟩
theorem dl_two {X : World} {N N1 N2 : Nat} (h0 : X.cell? ⟨N, 0, none⟩ = some (.int .i64 0)) (h1 : X.cell? ⟨N, 1, none⟩ = some (.slice (some ⟨N1, 0, none⟩) 2 2)) (h2 : X.cell? ⟨N, 2, none⟩ = some (.int .i64 1)) (h3 : X.cell? ⟨N, 3, none⟩ = some (.slice (some ⟨N2, 0, none⟩) 1 1)) (hN : N < X.heap.size)
    (s1 : SL X (some ⟨N1, 0, none⟩) [(1, 1), (2, 1)]) (s2 : SL X (some ⟨N2, 0, none⟩) [(1, 1)]) : Dl X (some ⟨N, 0, none⟩) [⟨0, some ⟨N1, 0, none⟩, 2, [(1, 1), (2, 1)]⟩, ⟨1, some ⟨N2, 0, none⟩, 1, [(1, 1)]⟩] := by
  refine ⟨fun s hs => ?_, fun _ => ⟨N, 0, rfl, hN, fun i s hi => ?_⟩⟩
  · simp only [List.mem_cons, List.not_mem_nil, or_false] at hs
    rcases hs with rfl | rfl
    · exact ⟨s1, fun h => (by cases h), Nat.le_refl _⟩
    · exact ⟨s2, fun h => (by cases h), Nat.le_refl _⟩
  · match i, hi with
    | 0, hi =>
      simp only [List.getElem?_cons_zero, Option.some.injEq] at hi
      subst hi
      exact ⟨h0, h1⟩
    | 1, hi =>
      simp only [List.getElem?_cons_succ, List.getElem?_cons_zero, Option.some.injEq] at hi
      subst hi
      exact ⟨h2, h3⟩
    | i + 2, hi => simp at hi
theorem dl_neg {X : World} {N : Nat} (h0 : X.cell? ⟨N, 0, none⟩ = some (.int .i64 (-1))) (h1 : X.cell? ⟨N, 1, none⟩ = some (.slice none 0 0)) (hN : N < X.heap.size) : Dl X (some ⟨N, 0, none⟩) [⟨-1, none, 0, []⟩] := by
  refine ⟨fun s hs => ?_, fun _ => ⟨N, 0, rfl, hN, fun i s hi => ?_⟩⟩
  · rw [List.mem_singleton] at hs
    subst hs
    exact ⟨SL.nil_ok _ _, fun _ => rfl, Nat.le_refl _⟩
  · match i, hi with
    | 0, hi =>
      simp only [List.getElem?_cons_zero, Option.some.injEq] at hi
      subst hi
      exact ⟨h0, h1⟩
    | i + 1, hi => simp at hi
set_option maxHeartbeats 400000 in
theorem num6_any (n : Int) (w : World) : Calls Tryz.prog 17 #[.int .i64 n] w fun e w' => e = .returned (.int .i64 n) ∧ w = w' := by
  go_enter Tryz.func17, Tryz.ntmps17
  go_wp2
  go_ret
  exact ⟨rfl, rfl⟩
def liveD : Dd := [(0, [(1, 1), (2, 1)]), (1, [(1, 1)])]
theorem live_merge : mergeD [[(0, sortL [(1, 1)])], [(0, sortL [(2, 1)])], [(1, sortL [(1, 1)])]] = liveD := by decide +kernel
theorem live_check : checkD liveD = 0 := by decide +kernel
theorem live_all : allD liveD = [(1, 1), (2, 1)] := by decide +kernel
theorem live_same {a : Option Addr} {c N : Nat} {l : List Dp} {w : World} (hT : toD l = liveD) (hf : FewD l) (hl : Dl w a l) (hm : ∃ N1 N2, Dl w (some ⟨N, 0, none⟩) [⟨0, some ⟨N1, 0, none⟩, 2, [(1, 1), (2, 1)]⟩, ⟨1, some ⟨N2, 0, none⟩, 1, [(1, 1)]⟩]) :
    Calls Tryz.prog 20 #[.slice a l.length c, .slice (some ⟨N, 0, none⟩) 2 2] w fun e w' => e = .returned (.bool true) ∧ Below w.heap.size w w' := by
  obtain ⟨N1, N2, hm⟩ := hm
  refine (refsame6_any a _ c 2 l [⟨0, some ⟨N1, 0, none⟩, 2, [(1, 1), (2, 1)]⟩, ⟨1, some ⟨N2, 0, none⟩, 1, [(1, 1)]⟩] w hf hl hm).mono fun e w' h => ?_
  rw [hT] at h
  exact h
theorem live_parse : parseD (layD liveD) = some liveD := by
  have h := parse_front live_check []
  rw [List.append_nil, if_pos rfl] at h
  exact h
theorem live_few {l : List Dp} (h : toD l = liveD) : FewD l ∧ idsN (toD l) ≤ 1000000 ∧ l.length ≤ 1000 := by
  have hl : l.length = 2 := by rw [← toD_length, h]; rfl
  have hn : idsN (toD l) = 3 := by rw [h]; rfl
  refine ⟨⟨by omega, fun s hs => ?_⟩, by omega, by omega⟩
  have h2 := idsN_le hs
  omega
theorem live_laylen : (layD liveD).length ≤ 100000 := by
  unfold layD
  rw [List.length_append, S2.i8_length, layF_len]
  decide
theorem live_bad : checkD [(-1, [])] = 60 := by decide +kernel

end SD
end Go.Proofs.YtjlkgbejldcklaaGreat
