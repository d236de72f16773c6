/- Contracts of the reference's Has, After, List and Same. Conditions: lists of at most a million stamps. -/
import Derived.Lib.SmallJoins
import Derived.Deep.Slices
import Derived.Deep.Fields
import Derived.BigQuiet
import Derived.Test.YtjlkgbejldcklaaGreatMg00
import Derived.Test.YtjlkgbejldcklaaGreatMg01
/- The arguments of this stage's laws, opened: a stamp is two whole numbers; a list of stamps lies in memory, two cells a stamp. Conditions: none. -/
set_option maxRecDepth 100000
namespace Go.Proofs.YtjlkgbejldcklaaGreat
namespace S1
open Go.ChangeShapes Go.WideShapes Go.ChangeAt Go.RowKit Go.Joins Go.Deep

theorem own0 : ownKnob Tryz.prog.godebug = none := by kernel_rfl
theorem laid0 : laidOutB Tryz.prog = true := by kernel_rfl
theorem cellsSt : Tryz.prog.cellsOf 42 = 2 := by kernel_rfl

section
variable {H : Type} {enc : TypeId × Value → H}
theorem open_stamp {r : Reach} {b0 : Nat} {w : World} {base : Nat} {sp : Nat → Bool} {hd : Bool} {v : Value} {d : DataW H} {p : List MemPlace} (hv : Value.okWide Tryz.prog w r b0 42 v) (h : DataW.Trod enc Tryz.prog w base sp hd 42 v d p) :
    ∃ t n : Int, v = .agg #[.int .i64 t, .int .i64 n] ∧ (Lit.int .i64 t).wf = true ∧ (Lit.int .i64 n).wf = true := by
  obtain ⟨c0, c1, y0, y1, m, rfl, rfl, rfl, hy0, hy1⟩ := open_agg2 Tryz.underlying42 (by kernel_rfl) cellsSt hv h
  obtain ⟨a, e0, rfl, wa⟩ := DataW.trod_int Tryz.underlying2 hy0
  obtain ⟨b, e1, rfl, wb⟩ := DataW.trod_int Tryz.underlying3 hy1
  simp at e0 e1
  subst e0 e1
  exact ⟨a, b, rfl, wa, wb⟩
end

end S1
end Go.Proofs.YtjlkgbejldcklaaGreat

/- Regions that leave their order open, whose operations read older memory and whose calls give one value each and leave all older memory as it was: one walk, in the text's order, serves every order. Conditions: as each theorem states. -/
namespace Go.Proofs.YtjlkgbejldcklaaGreat
namespace S1
open Go.RowKit Go.Sort

/-- A world behind w in which all older memory is as it was. -/
structure Aft (w : World) where
  x : World
  h : Below w.heap.size w x

instance Aft.some (w : World) : Nonempty (Aft w) := ⟨⟨w, Below.refl _ _⟩⟩
theorem Aft.cell {w : World} (y : Aft w) (n i : Nat) (hn : n < w.heap.size) : y.x.cell? ⟨n, i, none⟩ = w.cell? ⟨n, i, none⟩ := y.h.cell (p := ⟨n, i, none⟩) hn
theorem Aft.frozen {w : World} (y : Aft w) (n i : Nat) (hn : n < w.heap.size) : y.x.frozen? ⟨n, i, none⟩ = w.frozen? ⟨n, i, none⟩ := y.h.frozen (p := ⟨n, i, none⟩) hn
theorem Aft.lt {w : World} (y : Aft w) (n : Nat) (hn : n < w.heap.size) : n < y.x.heap.size := Nat.lt_of_lt_of_le hn y.h.size
attribute [go_sem] Aft.cell Aft.frozen

theorem region_aft {P : Program} {id : Nat} {Q : Exit → Act → World → Prop} {a : Act} {w : World} {l : List Oper} (hm : P.follows .mixedOrders = true) (hB : Region.lexB .any l.toArray = true)
    (h : wpQuiet P l.toArray (fun w' => ∃ y : Aft w, w' = y.x) (fun a' => ∀ w', (∃ y : Aft w, w' = y.x) → Q .normal a' w') l a) : (Code.region id l.toArray true).wp P Q a w :=
  wp_region_quiet (C := fun w' => ∃ y : Aft w, w' = y.x) hm hB ⟨⟨{ w with drawn := w.drawn + 1 }, ⟨rfl, rfl, rfl, Nat.le_refl _, fun _ _ => rfl⟩⟩, rfl⟩ (by simpa using h)

/-- A callee's contract, met within such a region. -/
theorem aft_of {P : Program} {f : FuncId} {args : Array Value} {w : World} {y : Aft w} {v : Value} (h : Calls P f args y.x fun e w' => e = .returned v ∧ Below y.x.heap.size y.x w') :
    Calls P f args y.x fun e w'' => e = .returned v ∧ ∃ z : Aft w, w'' = z.x :=
  h.mono fun _ w'' ⟨he, hb⟩ => ⟨he, ⟨w'', blThen y.h hb⟩, rfl⟩
theorem aft_grown {P : Program} {f : FuncId} {args : Array Value} {w : World} {y : Aft w} {v : Value} (h : Calls P f args y.x fun e w' => e = .returned v ∧ ∃ q os, w' = grow (y.x.drewN q) os) :
    Calls P f args y.x fun e w'' => e = .returned v ∧ ∃ z : Aft w, w'' = z.x :=
  h.mono fun _ w'' ⟨he, q, os, hw⟩ => ⟨he, ⟨w'', by rw [hw]; exact blGrown y.h q os⟩, rfl⟩
theorem aft_same {P : Program} {f : FuncId} {args : Array Value} {w : World} {y : Aft w} {v : Value} (h : Calls P f args y.x fun e w' => e = .returned v ∧ y.x = w') :
    Calls P f args y.x fun e w'' => e = .returned v ∧ ∃ z : Aft w, w'' = z.x :=
  h.mono fun _ _ ⟨he, hw⟩ => ⟨he, y, hw.symm⟩

end S1
end Go.Proofs.YtjlkgbejldcklaaGreat

/- Plain facts about sorted lists of stamps: the list of these, each once, is one. No program is named. -/
namespace Go.Proofs.YtjlkgbejldcklaaGreat
namespace S1

theorem ltS_irrefl (a : Int × Int) : ltS a a = false := by simp [ltS]
theorem ltS_trans {a b c : Int × Int} (h : ltS a b = true) (k : ltS b c = true) : ltS a c = true := by simp only [ltS_iff] at *; omega
theorem ltS_asymm {a b : Int × Int} (h : ltS a b = true) : ltS b a = false := by simp only [ltS_iff, ltS_not] at *; omega
theorem ltS_total {a b : Int × Int} (h : ltS a b = false) (k : ltS b a = false) : a = b := by
  simp only [ltS_not] at *
  exact Prod.ext (by omega) (by omega)
theorem ltS_ge_trans {a b c : Int × Int} (h : ltS a b = false) (k : ltS b c = false) : ltS a c = false := by simp only [ltS_not] at *; omega

/-- A list that rises. -/
def SS (l : List (Int × Int)) : Prop := l.Pairwise fun a b => ltS a b = true
theorem SS.uniq : ∀ {a b : List (Int × Int)}, SS a → SS b → (∀ y, y ∈ a ↔ y ∈ b) → a = b
  | [], [], _, _, _ => rfl
  | [], y :: _, _, _, h => by have := (h y).2 (by simp); simp at this
  | x :: _, [], _, _, h => by have := (h x).1 (by simp); simp at this
  | x :: a, y :: b, ha, hb, h => by
    obtain ⟨ha1, ha2⟩ := List.pairwise_cons.1 ha
    obtain ⟨hb1, hb2⟩ := List.pairwise_cons.1 hb
    have hxy : x = y := by
      rcases List.mem_cons.1 ((h x).1 (by simp)) with h1 | h1
      · exact h1
      · rcases List.mem_cons.1 ((h y).2 (by simp)) with h2 | h2
        · exact h2.symm
        · have k1 := hb1 x h1
          have k2 := ha1 y h2
          rw [ltS_asymm k1] at k2
          cases k2
    subst hxy
    rw [SS.uniq ha2 hb2 fun z => ?_]
    constructor
    · intro hz
      rcases List.mem_cons.1 ((h z).1 (by simp [hz])) with h1 | h1
      · subst h1
        have := ha1 z hz
        rw [ltS_irrefl] at this
        cases this
      · exact h1
    · intro hz
      rcases List.mem_cons.1 ((h z).2 (by simp [hz])) with h1 | h1
      · subst h1
        have := hb1 z hz
        rw [ltS_irrefl] at this
        cases this
      · exact h1

/-- One stamp more, in its place, unless it is there. -/
def addL : List (Int × Int) → Int × Int → List (Int × Int)
  | [], s => [s]
  | x :: r, s => if ltS x s then x :: addL r s else if x = s then x :: r else s :: x :: r
theorem mem_addL (l : List (Int × Int)) (s y : Int × Int) : y ∈ addL l s ↔ y = s ∨ y ∈ l := by
  induction l with
  | nil => simp [addL]
  | cons x r ih =>
    unfold addL
    split
    · simp only [List.mem_cons, ih]
      constructor
      · rintro (h | h | h)
        · exact .inr (.inl h)
        · exact .inl h
        · exact .inr (.inr h)
      · rintro (h | h | h)
        · exact .inr (.inl h)
        · exact .inl h
        · exact .inr (.inr h)
    · split
      · rename_i h
        subst h
        simp only [List.mem_cons]
        constructor
        · intro h; exact .inr h
        · rintro (h | h)
          · exact .inl h
          · exact h
      · simp only [List.mem_cons]
theorem addL_nil (s : Int × Int) : addL [] s = [s] := rfl
theorem addL_cons (x : Int × Int) (r : List (Int × Int)) (s : Int × Int) : addL (x :: r) s = if ltS x s then x :: addL r s else if x = s then x :: r else s :: x :: r := rfl
theorem SS.addL {l : List (Int × Int)} (h : SS l) (s : Int × Int) : SS (addL l s) := by
  induction l with
  | nil => simp [SS, addL_nil]
  | cons x r ih =>
    obtain ⟨h1, h2⟩ := List.pairwise_cons.1 h
    rw [addL_cons]
    split
    · rename_i hx
      refine List.pairwise_cons.2 ⟨fun y hy => ?_, ih h2⟩
      rcases (mem_addL r s y).1 hy with hy | hy
      · subst hy; exact hx
      · exact h1 y hy
    · split
      · exact h
      · rename_i hx hne
        have hlt : ltS s x = true := by
          cases hc : ltS s x
          · exact absurd (ltS_total (by simpa using hx) hc) hne
          · rfl
        refine List.pairwise_cons.2 ⟨fun y hy => ?_, h⟩
        rcases List.mem_cons.1 hy with hy | hy
        · subst hy; exact hlt
        · exact ltS_trans hlt (h1 y hy)
/-- The list of these, each once. -/
def sortL (l : List (Int × Int)) : List (Int × Int) := l.foldl addL []
theorem sortL_from (l : List (Int × Int)) : ∀ acc, SS acc → SS (l.foldl addL acc) ∧ ∀ y, y ∈ l.foldl addL acc ↔ y ∈ acc ∨ y ∈ l := by
  induction l with
  | nil => intro acc h; exact ⟨h, fun y => by simp⟩
  | cons x r ih =>
    intro acc h
    obtain ⟨h1, h2⟩ := ih (addL acc x) (h.addL x)
    refine ⟨h1, fun y => ?_⟩
    rw [List.foldl_cons, h2, mem_addL, List.mem_cons]
    constructor
    · rintro ((h | h) | h)
      · exact .inr (.inl h)
      · exact .inl h
      · exact .inr (.inr h)
    · rintro (h | h | h)
      · exact .inl (.inr h)
      · exact .inl (.inl h)
      · exact .inr h
theorem sortL_ss (l : List (Int × Int)) : SS (sortL l) := (sortL_from l [] List.Pairwise.nil).1
theorem mem_sortL (l : List (Int × Int)) (y : Int × Int) : y ∈ sortL l ↔ y ∈ l := by
  rw [sortL, (sortL_from l [] List.Pairwise.nil).2]
  simp
theorem sortL_eq {l r : List (Int × Int)} (h : SS r) (hm : ∀ y, y ∈ r ↔ y ∈ l) : r = sortL l := SS.uniq h (sortL_ss l) fun y => by rw [hm, mem_sortL]
theorem sortL_congr {l r : List (Int × Int)} (hm : ∀ y, y ∈ l ↔ y ∈ r) : sortL l = sortL r := sortL_eq (sortL_ss l) fun y => by rw [mem_sortL, hm]
theorem sortL_self {l : List (Int × Int)} (h : SS l) : sortL l = l := (sortL_eq h fun _ => Iff.rfl).symm
theorem addL_length (l : List (Int × Int)) (s : Int × Int) : (addL l s).length ≤ l.length + 1 := by
  induction l with
  | nil => simp [addL]
  | cons x r ih =>
    unfold addL
    split
    · simp only [List.length_cons]; omega
    · split <;> simp
theorem sortL_length (l : List (Int × Int)) : (sortL l).length ≤ l.length := by
  suffices h : ∀ acc, (l.foldl addL acc).length ≤ acc.length + l.length by simpa [sortL] using h []
  induction l with
  | nil => intro acc; simp
  | cons x r ih =>
    intro acc
    have h1 := ih (addL acc x)
    have h2 := addL_length acc x
    simp only [List.foldl_cons, List.length_cons]
    omega

/-- What slices.Compact does with one element more. -/
def stepC (acc : List (Int × Int)) (y : Int × Int) : List (Int × Int) := if acc.getLast? = some y then acc else acc ++ [y]
def cmpct (l : List (Int × Int)) : List (Int × Int) := l.foldl stepC []
theorem cmpct_snoc (l : List (Int × Int)) (y : Int × Int) : cmpct (l ++ [y]) = stepC (cmpct l) y := by simp [cmpct, List.foldl_append]
theorem stepC_last (acc : List (Int × Int)) (y : Int × Int) : (stepC acc y).getLast? = some y := by
  unfold stepC
  split
  · assumption
  · simp
theorem snoc_of {α : Type} (l : List α) (h : l ≠ []) : ∃ r y, l = r ++ [y] := ⟨l.dropLast, l.getLast h, (List.dropLast_concat_getLast h).symm⟩
theorem cmpct_last (l : List (Int × Int)) : (cmpct l).getLast? = l.getLast? := by
  by_cases h : l = []
  · subst h; rfl
  · obtain ⟨r, y, rfl⟩ := snoc_of l h
    rw [cmpct_snoc, stepC_last]
    simp
theorem cmpct_take (l : List (Int × Int)) (k : Nat) (y : Int × Int) (h : l[k]? = some y) : cmpct (l.take (k + 1)) = stepC (cmpct (l.take k)) y := by
  rw [List.take_add_one, h]
  exact cmpct_snoc _ _
theorem mem_stepC (acc : List (Int × Int)) (y z : Int × Int) : z ∈ stepC acc y ↔ z ∈ acc ∨ z = y := by
  unfold stepC
  split
  · rename_i h
    constructor
    · exact .inl
    · rintro (h1 | h1)
      · exact h1
      · subst h1; exact List.mem_of_getLast? h
  · simp
theorem cmpct_ind {p : List (Int × Int) → Prop} (l : List (Int × Int)) (h0 : p []) (hs : ∀ r y, r ++ [y] <+: l → p r → p (r ++ [y])) : p l := by
  suffices h : ∀ n, n ≤ l.length → p (l.take n) by simpa using h l.length (Nat.le_refl _)
  intro n
  induction n with
  | zero => intro _; simpa using h0
  | succ n ih =>
    intro hn
    obtain ⟨y, hy⟩ : ∃ y, l[n]? = some y := ⟨_, List.getElem?_eq_getElem hn⟩
    have e : l.take (n + 1) = l.take n ++ [y] := by rw [List.take_add_one, hy]; rfl
    rw [e]
    exact hs _ _ (by rw [← e]; exact List.take_prefix _ _) (ih (by omega))
theorem mem_cmpct (l : List (Int × Int)) : ∀ z, z ∈ cmpct l ↔ z ∈ l :=
  cmpct_ind (p := fun l => ∀ z, z ∈ cmpct l ↔ z ∈ l) l (fun z => Iff.rfl) fun r y _ ih z => by
    rw [cmpct_snoc, mem_stepC, ih, List.mem_append]
    simp
theorem cmpct_length (l : List (Int × Int)) : (cmpct l).length ≤ l.length :=
  cmpct_ind (p := fun l => (cmpct l).length ≤ l.length) l (Nat.le_refl _) fun r y _ ih => by
    rw [cmpct_snoc]
    unfold stepC
    split
    · simp; omega
    · simp; omega
theorem cmpct_ss (l : List (Int × Int)) (h : l.Pairwise fun a b => ltS b a = false) : SS (cmpct l) :=
  cmpct_ind (p := fun l => (l.Pairwise fun a b => ltS b a = false) → SS (cmpct l)) l (fun _ => List.Pairwise.nil) (fun r y _ ih hp => by
    obtain ⟨h1, _, h3⟩ := List.pairwise_append.1 hp
    rw [cmpct_snoc]
    unfold stepC
    split
    · exact ih h1
    · rename_i hne
      refine List.pairwise_append.2 ⟨ih h1, List.pairwise_singleton _ _, fun x hx z hz => ?_⟩
      simp only [List.mem_singleton] at hz
      subst hz
      have hxr := (mem_cmpct r x).1 hx
      have h4 := h3 x hxr z (by simp)
      cases hc : ltS x z
      · have hxz := ltS_total hc h4
        subst hxz
        exfalso
        apply hne
        rw [cmpct_last]
        obtain ⟨r', u, rfl⟩ := snoc_of r (by rintro rfl; simp at hxr)
        have hu := h3 u (by simp) x (by simp)
        rcases List.mem_append.1 hxr with h5 | h5
        · have h6 := (List.pairwise_append.1 h1).2.2 x h5 u (by simp)
          have := ltS_total h6 hu
          subst this
          simp
        · simp only [List.mem_singleton] at h5
          subst h5
          simp
      · rfl) h
theorem cmpct_sort {l d : List (Int × Int)} (hp : d.Perm l) (hs : d.Pairwise fun a b => ltS b a = false) : cmpct d = sortL l :=
  sortL_eq (cmpct_ss d hs) fun y => by rw [mem_cmpct]; exact hp.mem_iff

end S1
end Go.Proofs.YtjlkgbejldcklaaGreat

/- A law's argument that is a list of stamps, opened: it lies in memory, two cells a stamp. Conditions: none. -/
set_option maxRecDepth 100000
namespace Go.Proofs.YtjlkgbejldcklaaGreat
namespace S1
open Go.ChangeShapes Go.WideShapes Go.ChangeAt Go.RowKit Go.Joins Go.Deep

theorem cells_i64 : Tryz.prog.cellsOf 2 = 1 := by kernel_rfl
theorem cells_int : Tryz.prog.cellsOf 3 = 1 := by kernel_rfl

section
variable {H : Type} {enc : TypeId × Value → H}
theorem stamps_cells {w : World} {cs : List Value} {fuel : Nat} {x : DataW H × List MemPlace} (hf' : DataW.trod enc Tryz.prog w 0 (fun _ => true) true fuel 24 cs = some x) :
    ∃ (a : Option Addr) (l : List (Int × Int)) (cap : Nat), cs = [.slice a l.length cap] ∧ SL w a l ∧ l.length ≤ 9223372036854775807 ∧ (a = none → cap = 0) ∧ (∀ b o, a = some ⟨b, o, none⟩ → l ≠ [] → b < w.heap.size) ∧ ∀ s ∈ l, (Lit.int .i64 s.1).wf = true ∧ (Lit.int .i64 s.2).wf = true := by
  rcases open_slice Tryz.underlying24 hf' with ⟨hcs, _⟩ | ⟨a, len, cap, m, n, D, Pl, hcs, _, hl, hm, hmm, hx, hi⟩
  · subst hcs
    exact ⟨none, [], 0, rfl, fun h => absurd rfl h, by simp, fun _ => rfl, fun _ _ h => (by cases h), fun s hs => (by simp at hs)⟩
  · subst hcs
    simp only [if_true] at hmm
    subst hmm
    have hone : ∀ i, i < len → ∃ q : Int × Int, w.cell? (a.add (i * 2)) = some (.int .i64 q.1) ∧ w.cell? ((a.add (i * 2)).add 1) = some (.int .i64 q.2) ∧ (Lit.int .i64 q.1).wf = true ∧ (Lit.int .i64 q.2).wf = true := by
      intro i hlt
      obtain ⟨cs', hc, ht⟩ := hi i (by omega)
      rw [cellsSt] at hc
      obtain ⟨_, hlen, hat⟩ := World.cells?_some hc
      match cs', hlen with
      | [c0, c1], _ =>
        obtain ⟨y0, y1, k, _, _, h0, h1⟩ := trod_struct2 Tryz.underlying42 ht
        have e0 : DataW.trod enc Tryz.prog w 0 (fun _ => true) true k 2 [c0] = some y0 := by simpa [cells_i64] using h0
        have e1 : DataW.trod enc Tryz.prog w 0 (fun _ => true) true k 3 [c1] = some y1 := by simpa [cells_int] using h1
        obtain ⟨x, hx0, _, wx⟩ := DataW.trod_int Tryz.underlying2 e0
        obtain ⟨y, hy0, _, wy⟩ := DataW.trod_int Tryz.underlying3 e1
        simp only [List.cons.injEq, and_true] at hx0 hy0
        subst hx0 hy0
        exact ⟨(x, y), by simpa [Addr.add] using hat 0 (by omega), hat 1 (by omega), wx, wy⟩
    obtain ⟨f, hf2⟩ : ∃ f : Nat → Int × Int, ∀ i, i < len → w.cell? (a.add (i * 2)) = some (.int .i64 (f i).1) ∧ w.cell? ((a.add (i * 2)).add 1) = some (.int .i64 (f i).2) ∧ (Lit.int .i64 (f i).1).wf = true ∧ (Lit.int .i64 (f i).2).wf = true :=
      ⟨fun i => if h : i < len then Classical.choose (hone i h) else (0, 0), fun i hlt => by simp only [hlt, dif_pos]; exact Classical.choose_spec (hone i hlt)⟩
    have hlen : ((List.range len).map f).length = len := by simp
    refine ⟨some a, (List.range len).map f, _, by rw [hlen], fun hne => ?_, by rw [hlen]; unfold maxLen at hm; omega, fun h => (by cases h), fun b o hb hne => ?_, fun s hs => ?_⟩
    · have hpos : 0 < len := by
        rcases Nat.eq_zero_or_pos len with h | h
        · subst h; simp at hne
        · exact h
      have h00 := (hf2 0 hpos).1
      obtain ⟨b, off, spot⟩ := a
      have hspot : spot = none := by simpa [Addr.add] using World.cell?_spot h00
      subst hspot
      refine ⟨b, off, rfl, ?_, fun i x y hi' => ?_⟩
      · simpa [Addr.add] using World.block_lt_of_cell? _ _ h00
      · have hil : i < len := by
          have := (List.getElem?_eq_some_iff.1 hi').1
          simpa using this
        have hfi : f i = (x, y) := by simpa [List.getElem?_map, List.getElem?_range, hil] using hi'
        obtain ⟨g0, g1, _, _⟩ := hf2 i hil
        rw [hfi] at g0 g1
        rw [Go.WideShapes.add_plain] at g0
        rw [Go.WideShapes.add_plain, Go.WideShapes.add_plain] at g1
        exact ⟨g0, g1⟩
    · have hpos : 0 < len := by
        rcases Nat.eq_zero_or_pos len with h | h
        · subst h; simp at hne
        · exact h
      have h00 := (hf2 0 hpos).1
      simp only [Option.some.injEq] at hb
      subst hb
      simpa [Addr.add] using World.block_lt_of_cell? _ _ h00
    · obtain ⟨i, hi', rfl⟩ := List.mem_map.1 hs
      obtain ⟨_, _, w0, w1⟩ := hf2 i (List.mem_range.1 hi')
      exact ⟨w0, w1⟩
theorem open_stamps {r : Reach} {b0 : Nat} {w : World} {v : Value} {d : DataW H} {p : List MemPlace} (hv : Value.okWide Tryz.prog w r b0 24 v) (h : DataW.Trod enc Tryz.prog w 0 (fun _ => true) true 24 v d p) :
    ∃ (a : Option Addr) (l : List (Int × Int)) (cap : Nat), v = .slice a l.length cap ∧ SL w a l ∧ l.length ≤ 9223372036854775807 ∧ (a = none → cap = 0) ∧ (∀ b o, a = some ⟨b, o, none⟩ → l ≠ [] → b < w.heap.size) ∧ ∀ s ∈ l, (Lit.int .i64 s.1).wf = true ∧ (Lit.int .i64 s.2).wf = true := by
  obtain ⟨a0, len, cap, rfl⟩ := okWide_slice Tryz.underlying24 hv
  obtain ⟨fuel, hf⟩ := h
  have hf' : DataW.trod enc Tryz.prog w 0 (fun _ => true) true fuel 24 [.slice a0 len cap] = some (d, p) := by simpa [Value.cells] using hf
  obtain ⟨a, l, cap', hcs, h⟩ := stamps_cells hf'
  simp only [List.cons.injEq, and_true] at hcs
  exact ⟨a, l, cap', hcs, h⟩
end

/-- The cells of a list of stamps. -/
def cellsL (l : List (Int × Int)) : List Value := l.flatMap fun s => [.int .i64 s.1, .int .i64 s.2]
theorem cellsL_length (l : List (Int × Int)) : (cellsL l).length = l.length * 2 := by
  induction l with
  | nil => rfl
  | cons a r ih => simp [cellsL] at ih ⊢; omega
theorem cellsL_append (l r : List (Int × Int)) : cellsL (l ++ r) = cellsL l ++ cellsL r := by simp [cellsL]
theorem cellsL_at (l : List (Int × Int)) : ∀ (i : Nat) (x y : Int), l[i]? = some (x, y) → (cellsL l)[i * 2]? = some (.int .i64 x) ∧ (cellsL l)[i * 2 + 1]? = some (.int .i64 y) := by
  induction l with
  | nil => intro i x y h; simp at h
  | cons a r ih =>
    intro i x y h
    cases i with
    | zero =>
      simp only [List.getElem?_cons_zero, Option.some.injEq] at h
      subst h
      exact ⟨rfl, rfl⟩
    | succ i =>
      obtain ⟨h1, h2⟩ := ih i x y (by simpa using h)
      have e : cellsL (a :: r) = Value.int .i64 a.1 :: Value.int .i64 a.2 :: cellsL r := rfl
      rw [e, show (i + 1) * 2 = i * 2 + 1 + 1 by omega]
      simpa using ⟨h1, h2⟩
theorem cellsL_one (l : List (Int × Int)) : ∀ u ∈ cellsL l, u.oneCell' = true := by
  intro u hu
  obtain ⟨s, _, hs⟩ := List.mem_flatMap.1 hu
  simp only [List.mem_cons, List.not_mem_nil, or_false] at hs
  rcases hs with rfl | rfl <;> rfl
/-- What is there, as an append asks it. -/
theorem Lst.cells {w : World} {b o : Nat} {l : List (Int × Int)} (h : Lst w b o l) : ∀ (j : Nat) (u : Value), (cellsL l)[j]? = some u → w.cell? ((⟨b, o, none⟩ : Addr).add j) = some u := by
  intro j u hj
  have hlt : j < l.length * 2 := by
    have := (List.getElem?_eq_some_iff.1 hj).1
    rwa [cellsL_length] at this
  obtain ⟨x, y, hxy⟩ := at_lt (l := l) (k := j / 2) (by omega)
  obtain ⟨c1, c2⟩ := cellsL_at l (j / 2) x y hxy
  obtain ⟨h1, h2⟩ := h (j / 2) x y hxy
  rw [Go.WideShapes.add_plain]
  rcases Nat.mod_two_eq_zero_or_one j with hm | hm
  · have e : j / 2 * 2 = j := by omega
    rw [e] at c1 h1
    rw [h1, ← c1, hj]
  · have e : j / 2 * 2 + 1 = j := by omega
    rw [e] at c2
    rw [show o + j / 2 * 2 + 1 = o + j by omega] at h2
    rw [h2, ← c2, hj]
/-- The slice v is the call's own (in a block from base on) and holds the stamps of l. -/
def OwnL (w : World) (base : Nat) (v : Value) (l : List (Int × Int)) : Prop := w.ownsRow base 42 2 v l.length (cellsL l)
theorem OwnL.sl {w : World} {base : Nat} {v : Value} {l : List (Int × Int)} (h : OwnL w base v l) :
    ∃ a cap, v = .slice a l.length cap ∧ SL w a l ∧ (a = none → cap = 0) ∧ (∀ b o, a = some ⟨b, o, none⟩ → base ≤ b) ∧ l.length ≤ cap := by
  obtain ⟨h1, h2 | ⟨g, cap, cur, hv, hg, hh, hn, hm, hs, hx⟩⟩ := h
  · obtain ⟨rfl, hl⟩ := h2
    obtain rfl := List.eq_nil_of_length_eq_zero hl
    exact ⟨none, 0, rfl, fun h => absurd rfl h, fun _ => rfl, fun _ _ h => (by cases h), Nat.le_refl _⟩
  · refine ⟨_, cap, hv, fun _ => ⟨g, 0, rfl, lt_of_block hh, fun i x y hi => ?_⟩, fun h => (by cases h), fun b o hb => ?_, hn⟩
    · have hil := (List.getElem?_eq_some_iff.1 hi).1
      obtain ⟨c1, c2⟩ := cellsL_at l i x y hi
      rw [← hx] at c1 c2
      rw [List.getElem?_take_of_lt (by omega)] at c1 c2
      simp only [World.cell?, hh]
      exact ⟨by simpa using c1, by simpa using c2⟩
    · simp only [Option.some.injEq, Addr.mk.injEq] at hb
      omega
theorem info_st : (Tryz.prog.info? 42).map (fun i => (i.zero, i.size, i.bytes)) = some (some (.agg #[.int .i64 0, .int .i64 0]), 2, 16) := by kernel_rfl

theorem SL.nil_ok (w : World) (a : Option Addr) : SL w a [] := fun h => absurd rfl h

end S1
end Go.Proofs.YtjlkgbejldcklaaGreat

/- Contracts of the reference's Max, Has and After, and of own, which copies a list. Conditions: lists of at most a million stamps. -/
namespace Go.Proofs.YtjlkgbejldcklaaGreat
namespace S1
open Go.RowKit Go.Sort

/-- It returns a list of its own, with the stamps of l, and leaves older memory as it was. -/
def RetL (w : World) (l : List (Int × Int)) (e : Ending) (w' : World) : Prop := ∃ a cap, e = .returned (.slice a l.length cap) ∧ SL w' a l ∧ (a = none → cap = 0) ∧ (∀ b o, a = some ⟨b, o, none⟩ → w.heap.size ≤ b) ∧ Below w.heap.size w w'

theorem src_of {w : World} {a : Option Addr} {l : List (Int × Int)} (hl : SL w a l) : a = none ∨ ∃ ad, a = some ad ∧ ∀ (W : World), Below w.heap.size w W → ∀ (j : Nat) (u : Value), (cellsL l)[j]? = some u → W.cell? (ad.add j) = some u := by
  cases a with
  | none => exact .inl rfl
  | some ad =>
    refine .inr ⟨ad, rfl, fun W hW j u hj => ?_⟩
    have hne : l ≠ [] := by rintro rfl; simp [cellsL] at hj
    obtain ⟨b, o, he, hb, hlst⟩ := hl hne
    simp only [Option.some.injEq] at he
    subst he
    exact (hlst.later hb hW).cells j u hj

theorem own_empty (w : World) : (w.alloc (.cells #[] 42)).ownsRow w.heap.size 42 2 (.slice (some ⟨w.heap.size, 0, none⟩) 0 0) 0 [] := by
  refine ⟨rfl, .inr ⟨w.heap.size, 0, #[], rfl, Nat.le_refl _, ?_, Nat.le_refl _, Nat.zero_le _, rfl, rfl⟩⟩
  show (w.heap.push _)[w.heap.size]? = _
  simp

end S1
end Go.Proofs.YtjlkgbejldcklaaGreat

/- Contracts of the reference's Has, After, List and Same. Conditions: lists of at most a million stamps. -/
namespace Go.Proofs.YtjlkgbejldcklaaGreat
namespace S1
open Go.RowKit Go.Sort

set_option maxHeartbeats 1000000 in
theorem refhas_any (a : Option Addr) (cap : Nat) (l : List (Int × Int)) (t n : Int) (w : World) (hlen : l.length ≤ 1000000) (hl : SL w a l) :
    Calls Tryz.prog 122 #[.slice a l.length cap, .agg #[.int .i64 t, .int .i64 n]] w fun e w' => e = .returned (.bool (decide ((t, n) ∈ l))) ∧ Below w.heap.size w w' := by
  have HL := Lib.hid hl
  clear hl
  generalize hv : decide ((t, n) ∈ l) = v
  have HV := Lib.hid hv
  clear hv
  go_enter Tryz.func122, Tryz.ntmps122
  go_wp2
  have hB1 : Hid (Below w.heap.size w (w.alloc (Obj.cells #[Value.int IntKind.i64 t, Value.int IntKind.i64 n] 42))) := (Below.refl _ _).alloc (Nat.le_refl _) _
  have hN : Own2 (w.alloc (Obj.cells #[Value.int IntKind.i64 t, Value.int IntKind.i64 n] 42)) w.heap.size t n := own2_new _ _ _
  generalize w.alloc (Obj.cells #[Value.int IntKind.i64 t, Value.int IntKind.i64 n] 42) = W at *
  have HN := Lib.hid hN
  have hS := hN.lt
  clear hN
  go_loopw [5] (fun i wr => ∃ k : Nat, k ≤ l.length ∧ i = .int .i64 k ∧ (∀ j, j < k → l[j]? ≠ some (t, n)) ∧ Below W.heap.size W wr) (fun i _ => l.length - (intOf i).toNat)
  case atStart => exact ⟨0, Nat.zero_le _, rfl, fun j h => absurd h (Nat.not_lt_zero _), Below.refl _ _⟩
  case round =>
    obtain ⟨k, hk, rfl, hno, hbel⟩ := hrel
    have HNO := Lib.hid hno
    have HB := Lib.hid hbel
    have hN2 := HN.out.later hbel hS
    have hc0 := hN2.c0
    have hc1 := hN2.c1
    have hsz : w.heap.size < wr.heap.size := hN2.lt
    have HBW := Lib.hid (hB1.out.trans (hbel.mono (Nat.le_of_lt hS)))
    clear hbel hno hN2
    by_cases hlt : k < l.length
    · obtain ⟨x, y, hxy⟩ := at_lt hlt
      obtain ⟨b, o, rfl, hb, hl⟩ := HL.out (ne_of_lt hlt)
      obtain ⟨hx, hy⟩ := hl.later hb HBW.out k x y hxy
      have hbw : b < wr.heap.size := Nat.lt_of_lt_of_le hb HBW.out.size
      have HXY := Lib.hid hxy
      clear hxy hl
      have hin := fun h : x = t ∧ y = n => mem_of_at (l := l) (s := (t, n)) (k := k) (by rw [HXY.out, h.1, h.2])
      have HIN := Lib.hid hin
      have hstep : ¬ (x = t ∧ y = n) → ∀ j, j < k + 1 → l[j]? ≠ some (t, n) := by
        intro hne j hj he
        rcases Nat.lt_or_ge j k with h | h
        · exact HNO.out j h he
        · obtain rfl : j = k := by omega
          rw [HXY.out] at he
          simp only [Option.some.injEq, Prod.mk.injEq] at he
          exact hne he
      have HST := Lib.hid hstep
      clear hin hstep
      by_cases h1 : x = t
      · by_cases h2 : y = n
        · subst h1 h2
          go_wp2_with fail
          refine region_aft (by kernel_rfl) (by kernel_rfl) ?_
          repeat (go_big_quiet_step (fail))
          refine wpQuiet_nil ?_
          rintro w2 ⟨z, rfl⟩
          go_wp2
          go_ret
          exact ⟨ret_bool ((HIN.out (by simp)).symm.trans HV.out), blThen HBW.out z.h⟩
        · subst h1
          have HNE := Lib.hid (fun h : x = x ∧ y = n => h2 h.2)
          have h2b : (y == n) = false := by simpa using h2
          clear h2
          go_wp2_with fail
          refine region_aft (by kernel_rfl) (by kernel_rfl) ?_
          repeat (go_big_quiet_step (fail))
          refine wpQuiet_nil ?_
          rintro w2 ⟨z, rfl⟩
          go_wp2
          go_roundw
          case rel => exact ⟨k + 1, hlt, by go_num, HST.out HNE.out, HB.out.trans (z.h.mono HB.out.size)⟩
          case measure => simp [intOf]; omega
      · have HNE := Lib.hid (fun h : x = t ∧ y = n => h1 h.1)
        have h1b : (x == t) = false := by simpa using h1
        clear h1
        go_wp2_with fail
        refine region_aft (by kernel_rfl) (by kernel_rfl) ?_
        repeat (go_big_quiet_step (fail))
        refine wpQuiet_nil ?_
        rintro w2 ⟨z, rfl⟩
        go_wp2
        go_roundw
        case rel => exact ⟨k + 1, hlt, by go_num, HST.out HNE.out, HB.out.trans (z.h.mono HB.out.size)⟩
        case measure => simp [intOf]; omega
    · go_wp2
      go_ret
      exact ⟨ret_bool ((not_mem_of_none fun j hj => HNO.out j (by omega)).symm.trans HV.out), HBW.out⟩

def tmax (l : List (Int × Int)) : Int := l.foldl (fun t s => if t < s.1 then s.1 else t) 0
theorem tmax_take (l : List (Int × Int)) (k : Nat) (x y : Int) (h : l[k]? = some (x, y)) : tmax (l.take (k + 1)) = if tmax (l.take k) < x then x else tmax (l.take k) := by
  unfold tmax
  rw [List.take_add_one, h]
  simp [List.foldl_append]
theorem tmax_spec (l : List (Int × Int)) : (tmax l = 0 ∨ ∃ s ∈ l, tmax l = s.1) ∧ 0 ≤ tmax l ∧ ∀ s ∈ l, s.1 ≤ tmax l := by
  unfold tmax
  suffices h : ∀ t0 : Int, (l.foldl (fun t s => if t < s.1 then s.1 else t) t0 = t0 ∨ ∃ s ∈ l, l.foldl (fun t s => if t < s.1 then s.1 else t) t0 = s.1) ∧ t0 ≤ l.foldl (fun t s => if t < s.1 then s.1 else t) t0 ∧ ∀ s ∈ l, s.1 ≤ l.foldl (fun t s => if t < s.1 then s.1 else t) t0 from h 0
  induction l with
  | nil => intro t0; simp
  | cons a r ih =>
    intro t0
    obtain ⟨h1, h2, h3⟩ := ih (if t0 < a.1 then a.1 else t0)
    simp only [List.foldl_cons]
    generalize List.foldl (fun t s => if t < s.1 then s.1 else t) (if t0 < a.1 then a.1 else t0) r = m at *
    refine ⟨?_, ?_, ?_⟩
    · rcases h1 with h1 | ⟨s, hs, h1⟩
      · by_cases hc : t0 < a.1
        · rw [if_pos hc] at h1; exact .inr ⟨a, by simp, h1⟩
        · rw [if_neg hc] at h1; exact .inl h1
      · exact .inr ⟨s, by simp [hs], h1⟩
    · split at h2 <;> omega
    · intro s hs
      rcases List.mem_cons.1 hs with rfl | hs
      · split at h2 <;> omega
      · exact h3 s hs
theorem tmax_eq (l : List (Int × Int)) (h : l.all okS = true) : tmax l = (maxL l).1 ∧ tmax l ≤ 1099511627776 := by
  obtain ⟨h1, h2, h3⟩ := tmax_spec l
  have hok : ∀ s ∈ l, 0 ≤ s.1 ∧ s.1 ≤ 1099511627776 := by
    intro s hs
    have := List.all_eq_true.1 h s hs
    simp only [okS, isS, Bool.or_eq_true, decide_eq_true_eq] at this
    rcases this with h | h
    · subst h; simp
    · omega
  constructor
  · by_cases hne : l = []
    · subst hne; rfl
    · have hm := maxL_mem l hne
      have hge := maxL_ge l
      have a1 := h3 _ hm
      have a2 := (hok _ hm).1
      rcases h1 with h1 | ⟨s, hs, h1⟩
      · omega
      · have := hge s hs
        rw [ltS_not] at this
        omega
  · rcases h1 with h1 | ⟨s, hs, h1⟩
    · omega
    · have := hok s hs; omega

end S1
end Go.Proofs.YtjlkgbejldcklaaGreat
