/- The library's sort at stamps: it leaves a permutation of the row, which rises but for equals. Conditions: a row of at most a million stamps that may be written. -/
import Derived.Test.YtjlkgbejldcklaaGreatMg03
import Derived.Test.YtjlkgbejldcklaaGreatMg04
/- The library's sort at stamps: it leaves a permutation of the row, which rises but for equals. Conditions: a row of at most a million stamps that may be written. -/
namespace Go.Proofs.YtjlkgbejldcklaaGreat
namespace S1
open Go.Sort (grow flatK get_flatK size_flatK Holds HoldsK putRowK putRow mapBlock onCells SWO)

def encS (x : Int × Int) : List Value := [.int .i64 x.1, .int .i64 x.2]
def cfS (x y : Int × Int) : Int := cmpS x.1 x.2 y.1 y.2
theorem ltOf_cfS (x y : Int × Int) : ltOf cfS x y = ltS x y := by
  unfold ltOf cfS
  cases h : ltS x y
  · simp only [decide_eq_false_iff_not]
    intro hc
    rw [(cmpS_neg x.1 x.2 y.1 y.2).1 hc] at h
    cases h
  · simp only [decide_eq_true_eq]
    exact (cmpS_neg x.1 x.2 y.1 y.2).2 h
theorem swoS : SWO (ltOf cfS) where
  irrefl x := by rw [ltOf_cfS, ltS_irrefl]
  trans x y z h1 h2 := by rw [ltOf_cfS] at *; exact ltS_trans h1 h2
  ntrans x y z h1 h2 := by rw [ltOf_cfS] at *; exact ltS_ge_trans h1 h2

theorem cmpLaysS (blk off size : Nat) (w : World) : CmpLays Tryz.prog 185 #[] encS 2 cfS blk off size w :=
  fun _ _ _ _ x y => compare_grow x.1 x.2 y.1 y.2 _

theorem holds_of_row {w : World} {g : Nat} {l : List (Int × Int)} (h : RowC w g l) : HoldsK encS 2 w g 0 l.toArray := by
  intro j hj
  rw [size_flatK] at hj
  have hj2 : j < l.length * 2 := by simpa using hj
  obtain ⟨x, y, hxy⟩ := at_lt (l := l) (k := j / 2) (by omega)
  obtain ⟨c0, c1, f0, f1⟩ := h (j / 2) x y hxy
  have hget : l.toArray[j / 2]! = (x, y) := by simp [hxy]
  rw [get_flatK _ _ _ _ hj, hget, Nat.zero_add]
  rcases Nat.mod_two_eq_zero_or_one j with hm | hm
  · rw [hm]
    rw [show j / 2 * 2 = j by omega] at c0 f0
    exact ⟨c0, f0⟩
  · rw [hm]
    rw [show j / 2 * 2 + 1 = j by omega] at c1 f1
    exact ⟨c1, f1⟩
theorem row_of_holds {w : World} {g : Nat} {d : Array (Int × Int)} (h : HoldsK encS 2 w g 0 d) : RowC w g d.toList := by
  intro i x y hi
  have hil : i < d.size := by simpa using (List.getElem?_eq_some_iff.1 hi).1
  have hget : d[i]! = (x, y) := by
    have : d[i]? = some (x, y) := by simpa using hi
    rw [getElem!_pos d i hil]
    rw [Array.getElem?_eq_getElem hil] at this
    exact Option.some.inj this
  have h0 := h (i * 2) (by rw [size_flatK]; omega)
  have h1 := h (i * 2 + 1) (by rw [size_flatK]; omega)
  rw [get_flatK _ _ _ _ (by omega), Nat.zero_add] at h0 h1
  rw [show i * 2 / 2 = i by omega, show i * 2 % 2 = 0 by omega, hget] at h0
  rw [show (i * 2 + 1) / 2 = i by omega, show (i * 2 + 1) % 2 = 1 by omega, hget] at h1
  exact ⟨h0.1, h1.1, h0.2, h1.2⟩

theorem but_sortWorld (w : World) (g m : Nat) (d : Array (Int × Int)) (os : Array Obj) : But g w (sortWorldK encS 2 w g 0 m d os) := by
  have h1 : But g w (putRowK encS 2 (Go.Sort.ahead w m) g 0 d) := by
    refine ⟨rfl, rfl, rfl, ?_, fun k hk hne => ?_⟩
    · simp [putRowK, Go.Sort.ahead]
    · have hkg : g ≠ k := fun e => hne (by rw [e])
      simp only [putRowK, putRow, mapBlock, Go.Sort.ahead, Array.getElem?_modify]
      rw [if_neg hkg]
  exact h1.trans (But.of_below (grow_below (putRowK encS 2 (Go.Sort.ahead w m) g 0 d) 0 os))

theorem sortfunc_any (g cap : Nat) (l : List (Int × Int)) (w : World) (hlen : l.length ≤ 1000000) (hg : g < w.heap.size) (hH : RowC w g l) :
    Calls Tryz.prog 201 #[.slice (some ⟨g, 0, none⟩) l.length cap, .func (.func 185) #[] #[]] w fun e w' =>
      e = .returned (.tuple #[]) ∧ ∃ d : List (Int × Int), d.Perm l ∧ (d.Pairwise fun a b => ltS b a = false) ∧ But g w w' ∧ RowC w' g d := by
  have eg : ∀ args w, (callFunc 185 args).run Tryz.prog w = .ok (.enter 185 args) w := enters_of Tryz.func185 (by kernel_rfl) rfl
  have hK := holds_of_row hH
  have hcon := AnyQ.slices_SortFunc Tryz.sortSt 2 Tryz.isAgg42 Tryz.sizeOf42 encS (fun _ => rfl) (fun x v hv => by simp [encS] at hv; rcases hv with rfl | rfl <;> rfl) cfS swoS 185 #[] g 0 cap l.toArray w eg (cmpLaysS g 0 l.toArray.size w) hK hg (by simp; omega)
  change Calls Tryz.prog 201 _ _ _ at hcon
  refine Calls.mono hcon fun e w' ⟨he, d', n, os, hp, hs, hw⟩ => ⟨he, d'.toList, ?_, ?_, by rw [hw]; exact but_sortWorld w g n d' os, ?_⟩
  · obtain ⟨hsz, _, hperm⟩ := hp
    have e1 : (d'.extract 0 l.toArray.size).toList = d'.toList := by rw [← hsz]; simp
    have e2 : (l.toArray.extract 0 l.toArray.size).toList = l := by simp
    rwa [e1, e2] at hperm
  · rw [List.pairwise_iff_getElem]
    intro i j hi hj hij
    obtain ⟨hsz, _, _⟩ := hp
    have hi' : i < d'.size := by simpa using hi
    have hj' : j < d'.size := by simpa using hj
    have := hs i j (Nat.zero_le _) hij (by rw [← hsz]; exact hj')
    rw [ltOf_cfS, getElem!_pos d' j hj', getElem!_pos d' i hi'] at this
    simpa using this
  · rw [hw]
    exact row_of_holds (holdsK_sortWorldK_c encS 2 w g 0 l.toArray d' n os hK hg hp.1)

end S1
end Go.Proofs.YtjlkgbejldcklaaGreat
