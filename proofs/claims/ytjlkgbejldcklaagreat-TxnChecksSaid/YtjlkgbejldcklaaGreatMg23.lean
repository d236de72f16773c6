/- The arguments of this stage's laws, opened: bytes, numbers, texts, stamps that came in; Clone, Open, Sum of bytes that came in. Conditions: as each theorem states. -/
import Derived.Lib.SmallJoins
import Derived.Deep.Slices
import Derived.Deep.Fields
import Derived.Deep.Strs
import Derived.ChangeSlices
import Derived.ChangeMaps5
import Derived.Test.YtjlkgbejldcklaaGreatMg22
import Derived.Test.YtjlkgbejldcklaaGreatMg11
/- The arguments of this stage's laws, opened: bytes, numbers, texts, stamps that came in; Clone, Open, Sum of bytes that came in. Conditions: as each theorem states. -/
set_option maxRecDepth 100000
namespace Go.Proofs.YtjlkgbejldcklaaGreat
namespace S2
open Go.ChangeShapes Go.WideShapes Go.ChangeAt Go.RowKit Go.Joins Go.Deep

theorem own0 : ownKnob Tryz.prog.godebug = none := by kernel_rfl
theorem laid0 : laidOutB Tryz.prog = true := by kernel_rfl
theorem cellsSt : Tryz.prog.cellsOf 42 = 2 := by kernel_rfl
theorem cells_i64 : Tryz.prog.cellsOf 2 = 1 := by kernel_rfl
theorem cells_int : Tryz.prog.cellsOf 3 = 1 := by kernel_rfl
theorem cells_u8 : Tryz.prog.cellsOf 5 = 1 := by kernel_rfl
theorem cells_str : Tryz.prog.cellsOf 9 = 1 := by kernel_rfl

/-- A slice of bytes that came in (an empty one anywhere). -/
def Bw (w : World) (g : Nat) (v : Value) (l : List UInt8) : Prop :=
  ∃ a c, v = .slice a l.length c ∧ (a = none → l = [] ∧ c = 0) ∧ l.length ≤ maxLen ∧ (l ≠ [] → ∃ o, a = some ⟨g, o, none⟩ ∧ ∀ j x, l[j]? = some x → w.cell? ⟨g, o + j, none⟩ = some (bv x))
theorem Bw.keep {S : Nat → Prop} {w w' : World} {g : Nat} {v : Value} {l : List UInt8} (h : Bw w g v l) (k : Keeps S w w') (hg : l ≠ [] → ¬ S g) : Bw w' g v l := by
  obtain ⟨a, c, hv, h0, hl, hc⟩ := h
  exact ⟨a, c, hv, h0, hl, fun hne => let ⟨o, ha, hx⟩ := hc hne; ⟨o, ha, fun j x hj => k.cell (hg hne) (hx j x hj)⟩⟩
theorem Bs.bw {w : World} {g : Nat} {v : Value} {l : List UInt8} (h : Bs w g v l) : Bw w g v l := by
  rcases h with ⟨rfl, rfl⟩ | ⟨o, cap, rfl, h1, h2, h3⟩
  · exact ⟨none, 0, rfl, fun _ => ⟨rfl, rfl⟩, Nat.zero_le _, fun h => absurd rfl h⟩
  · exact ⟨_, cap, rfl, (fun h => by cases h), Nat.le_trans h1 h2, fun _ => ⟨o, rfl, h3⟩⟩
theorem Bw.src {w : World} {g : Nat} {v : Value} {l : List UInt8} (h : Bw w g v l) : Src Tryz.prog 1 23 v l.length (bvs l) w := by
  obtain ⟨a, c, rfl, h0, hl, hc⟩ := h
  cases a with
  | none =>
    obtain ⟨rfl, rfl⟩ := h0 rfl
    exact Src.ofNil w Tryz.underlying23 0
  | some a =>
    refine Src.ofSlice w Tryz.underlying23 a l.length c (bvs l) (by simp [bvs]) (fun j u hu => ?_) (bvs_one l)
    obtain ⟨x, hx, rfl⟩ := bvs_get hu
    obtain ⟨o, ha, hcc⟩ := hc (by rintro rfl; simp at hx)
    simp only [Option.some.injEq] at ha
    subst ha
    rw [add_plain]
    exact hcc j x hx
theorem Bw.lt {w : World} {g : Nat} {v : Value} {l : List UInt8} (h : Bw w g v l) (hne : l ≠ []) : g < w.heap.size := by
  obtain ⟨a, c, _, _, _, hc⟩ := h
  obtain ⟨o, _, hx⟩ := hc hne
  exact World.block_lt_of_cell? _ _ (hx 0 _ (List.getElem?_eq_getElem (List.length_pos_iff.2 hne)))

set_option maxRecDepth 100000 in
set_option maxHeartbeats 1000000 in
theorem clone_w (w : World) (g : Nat) (v : Value) (l : List UInt8) (h : Bw w g v l) (hlen : l.length ≤ 1099511627776) : Calls Tryz.prog 196 #[v] w (Made w l) := by
  have HB := Lib.hid h
  obtain ⟨a, c, rfl, h0, _, _⟩ := h
  cases a with
  | none =>
    obtain ⟨rfl, rfl⟩ := h0 rfl
    exact clone_any w g _ [] (.inl ⟨rfl, rfl⟩) hlen
  | some a =>
    have hq := fun w : World => Lib.run_eql_slice_nil (P := Tryz.prog) w 23 5 (some a) l.length c 0 0 Tryz.underlying23
    clear h0
    go_enter Tryz.func196, Tryz.ntmps196
    go_wp2_with (at_builtin; refine wpList_app rfl (.tmp 5) (.tmp 6) 23 rfl rfl rfl (row_empty _) (HB.out.keep (S := fun _ => False) (Keeps.alloc _ _ _) (fun _ h => h)).src (by simpa using hlen) ?_; intro v' w' g' h1 h2 h3; have H1 := Lib.hid h1; have H2 := Lib.hid h2; have H3 := Lib.hid h3; clear h1 h2 h3)
    go_ret
    refine ⟨_, g', rfl, by simpa using H1.out, ?_, ?_⟩
    · rcases H3.out with e | e
      · rw [e]; intro k hk; cases hk; exact Nat.le_refl _
      · exact e.later (Keeps.alloc (fun _ => False) _ _)
    · exact ((Below.refl _ _).alloc (Nat.le_refl _) _).grown H2.out (by simp) (fun k hk => by cases hk; exact Nat.le_refl _)

theorem Row.some_of {w : World} {g : Option Nat} {v : Value} {l : List UInt8} (h : Row w g v l) (hne : l ≠ []) : ∃ k, g = some k := by
  cases hg : g with
  | some k => exact ⟨k, rfl⟩
  | none =>
    rcases h.1.2 with ⟨_, h0⟩ | ⟨b, cap, cur, hv, _⟩
    · exact absurd (List.eq_nil_of_length_eq_zero h0) hne
    · have := h.2; rw [hg, hv] at this; cases this

set_option maxHeartbeats 1000000 in
theorem open_w (w : World) (g : Nat) (v : Value) (l : List UInt8) (h : Bw w g v l) (hlen : l.length ≤ 1099511627776) : Calls Tryz.prog 189 #[v] w (Opened w l) := by
  have HB := Lib.hid h
  clear h
  go_enter Tryz.func189, Tryz.ntmps189
  go_wp2_with (go_at_call 196; refine (clone_w _ g _ l HB.out hlen).mono ?_; rintro e w1 ⟨v1, g1, rfl, h1, h2, h3⟩; obtain ⟨a1, n1, c1, rfl⟩ := h1.form; have HR := Lib.hid h1; have HN := Lib.hid h2; have HW := Lib.hid h3; clear h1 h2 h3)
  go_ret
  refine ⟨w1.heap.size, g1.getD 0, rfl, ⟨_, heap_alloc_new w1 _, HR.out.bs.keep (Keeps.alloc (fun _ => False) _ _) (fun _ h => h), fun hne => ?_⟩, HW.out.size, fun hne => ?_, HW.out.alloc HW.out.size _⟩
  · obtain ⟨k, rfl⟩ := HR.out.some_of hne
    exact Nat.ne_of_lt (HR.out.lt rfl)
  · obtain ⟨k, rfl⟩ := HR.out.some_of hne
    exact HN.out k rfl

section
variable {H : Type} {enc : TypeId × Value → H}
theorem byte_wf {n : Int} (h : (Lit.int .u8 n).wf = true) : ∃ x : UInt8, n = (x.toNat : Int) := by
  simp only [Lit.wf, Bool.and_eq_true, decide_eq_true_eq] at h
  have e1 : IntKind.u8.min = 0 := rfl
  have e2 : IntKind.u8.max = 255 := rfl
  rw [e1, e2] at h
  refine ⟨UInt8.ofNat n.toNat, ?_⟩
  have : (UInt8.ofNat n.toNat).toNat = n.toNat := by simp; omega
  omega
theorem addr_plain {w : World} {a : Addr} {v : Value} (h : w.cell? a = some v) : ∃ b o, a = ⟨b, o, none⟩ := by
  obtain ⟨b, o, s⟩ := a
  have hs : s = none := World.cell?_spot h
  subst hs
  exact ⟨b, o, rfl⟩
/-- Cells behind an address, at a list of values. -/
theorem at_addr {w : World} {a : Addr} {n : Nat} {V : Nat → Value} (h : ∀ i, i < n → w.cell? (a.add i) = some (V i)) (hn : 0 < n) : ∃ b o, a = ⟨b, o, none⟩ ∧ b < w.heap.size ∧ ∀ i, i < n → w.cell? ⟨b, o + i, none⟩ = some (V i) := by
  have h0 := h 0 hn
  have e : a.add 0 = a := by unfold Addr.add; split <;> simp_all
  rw [e] at h0
  obtain ⟨b, o, rfl⟩ := addr_plain h0
  refine ⟨b, o, rfl, World.block_lt_of_cell? _ _ h0, fun i hi => ?_⟩
  have := h i hi
  rwa [Go.WideShapes.add_plain] at this

theorem open_nums {r : Reach} {b0 : Nat} {w : World} {v : Value} {d : DataW H} {p : List MemPlace} {t e : TypeId} {k : IntKind} (ht : Tryz.prog.underlying t = some (.slice e)) (he : Tryz.prog.underlying e = some (.int k)) (hc : Tryz.prog.cellsOf e = 1)
    (hv : Value.okWide Tryz.prog w r b0 t v) (h : DataW.Trod enc Tryz.prog w 0 (fun _ => true) true t v d p) :
    ∃ (a : Option Addr) (zs : List Int) (cap : Nat), v = .slice a zs.length cap ∧ (a = none → zs = [] ∧ cap = 0) ∧ zs.length ≤ maxLen ∧ (∀ n ∈ zs, (Lit.int k n).wf = true) ∧
      ∃ g, zs ≠ [] → g < w.heap.size ∧ ∃ o, a = some ⟨g, o, none⟩ ∧ ∀ j x, zs[j]? = some x → w.cell? ⟨g, o + j, none⟩ = some (.int k x) := by
  obtain ⟨a0, len, cap, rfl⟩ := okWide_slice ht hv
  obtain ⟨fuel, hf⟩ := h
  have hf' : DataW.trod enc Tryz.prog w 0 (fun _ => true) true fuel t [.slice a0 len cap] = some (d, p) := by simpa [Value.cells] using hf
  rcases open_ints ht he hc hf' with ⟨hcs, _⟩ | ⟨a, len', cap', zs, hcs, _, hl, hm, hz, _, hcell, hwf⟩
  · simp only [List.cons.injEq, Value.slice.injEq, and_true] at hcs
    obtain ⟨rfl, rfl, rfl⟩ := hcs
    exact ⟨none, [], 0, rfl, fun _ => ⟨rfl, rfl⟩, Nat.zero_le _, fun n hn => by simp at hn, 0, fun h => absurd rfl h⟩
  · simp only [List.cons.injEq, Value.slice.injEq, and_true] at hcs
    obtain ⟨rfl, rfl, rfl⟩ := hcs
    simp only [if_true] at hz
    have hlen : (zs.take len).length = len := by rw [List.length_take]; omega
    refine ⟨some a, zs.take len, cap, by rw [hlen], (fun h => by cases h), by rw [hlen]; omega, fun n hn => hwf n (List.mem_of_mem_take hn), ?_⟩
    by_cases hz0 : zs.take len = []
    · exact ⟨0, fun h => absurd hz0 h⟩
    · have hpos : 0 < len := by
        rcases Nat.eq_zero_or_pos len with h | h
        · subst h; simp at hz0
        · exact h
      obtain ⟨b, o, rfl, hb, hx⟩ := at_addr (n := zs.length) hcell (by omega)
      refine ⟨b, fun _ => ⟨hb, o, rfl, fun j x hj => ?_⟩⟩
      have hjl : j < len := by
        have := (List.getElem?_eq_some_iff.1 hj).1
        omega
      rw [List.getElem?_take_of_lt hjl] at hj
      rw [hx j (by omega)]
      obtain ⟨h, rfl⟩ := List.getElem?_eq_some_iff.1 hj
      simp [List.getD, h]

/-- Bytes that came in. -/
theorem open_bytesv {r : Reach} {b0 : Nat} {w : World} {v : Value} {d : DataW H} {p : List MemPlace} (hv : Value.okWide Tryz.prog w r b0 23 v) (h : DataW.Trod enc Tryz.prog w 0 (fun _ => true) true 23 v d p) : ∃ g l, Bw w g v l := by
  obtain ⟨a, zs, cap, rfl, h0, hm, hwf, g, hg⟩ := open_nums Tryz.underlying23 Tryz.underlying5 cells_u8 hv h
  have hl : ∃ l : List UInt8, zs = l.map fun x => (x.toNat : Int) := by
    clear hm hg h0 hv h
    induction zs with
    | nil => exact ⟨[], rfl⟩
    | cons z zs ih =>
      obtain ⟨x, rfl⟩ := byte_wf (hwf z (by simp))
      obtain ⟨l, rfl⟩ := ih (fun n hn => hwf n (by simp [hn]))
      exact ⟨x :: l, rfl⟩
  obtain ⟨l, rfl⟩ := hl
  refine ⟨g, l, a, cap, by simp, fun ha => ?_, by simpa using hm, fun hne => ?_⟩
  · have := h0 ha
    exact ⟨by simpa using this.1, this.2⟩
  · obtain ⟨_, o, ha, hx⟩ := hg (by simpa using hne)
    exact ⟨o, ha, fun j x hj => hx j _ (by simp [hj])⟩
/-- Whole numbers that came in. -/
theorem open_i64s {r : Reach} {b0 : Nat} {w : World} {v : Value} {d : DataW H} {p : List MemPlace} {t e : TypeId} (ht : Tryz.prog.underlying t = some (.slice e)) (he : Tryz.prog.underlying e = some (.int .i64)) (hc : Tryz.prog.cellsOf e = 1)
    (hv : Value.okWide Tryz.prog w r b0 t v) (h : DataW.Trod enc Tryz.prog w 0 (fun _ => true) true t v d p) :
    ∃ (a : Option Addr) (zs : List Int) (cap g : Nat), v = .slice a zs.length cap ∧ zs.length ≤ maxLen ∧ (∀ n ∈ zs, (Lit.int .i64 n).wf = true) ∧ IL w g a zs ∧ (zs ≠ [] → g < w.heap.size) := by
  obtain ⟨a, zs, cap, rfl, h0, hm, hwf, g, hg⟩ := open_nums ht he hc hv h
  exact ⟨a, zs, cap, g, rfl, hm, hwf, fun hne => (hg hne).2, fun hne => (hg hne).1⟩
/-- Texts that came in. -/
theorem open_texts {r : Reach} {b0 : Nat} {w : World} {v : Value} {d : DataW H} {p : List MemPlace} (hv : Value.okWide Tryz.prog w r b0 87 v) (h : DataW.Trod enc Tryz.prog w 0 (fun _ => true) true 87 v d p) :
    ∃ (a : Option Addr) (l : List ByteArray) (cap g : Nat), v = .slice a l.length cap ∧ l.length ≤ maxLen ∧ (∀ (j : Nat) (s : ByteArray), l[j]? = some s → s.size ≤ maxLen) ∧ TL w g a l ∧ (l ≠ [] → g < w.heap.size) := by
  obtain ⟨a0, len, cap, rfl⟩ := okWide_slice Tryz.underlying87 hv
  obtain ⟨fuel, hf⟩ := h
  have hf' : DataW.trod enc Tryz.prog w 0 (fun _ => true) true fuel 87 [.slice a0 len cap] = some (d, p) := by simpa [Value.cells] using hf
  rcases open_strs Tryz.underlying87 Tryz.underlying9 cells_str hf' with ⟨hcs, _⟩ | ⟨a, len', cap', m, S, hcs, _, hl, hm, hmm, _, hcell⟩
  · simp only [List.cons.injEq, Value.slice.injEq, and_true] at hcs
    obtain ⟨rfl, rfl, rfl⟩ := hcs
    exact ⟨none, [], 0, 0, rfl, Nat.zero_le _, fun j s h => by simp at h, fun h => absurd rfl h, fun h => absurd rfl h⟩
  · simp only [List.cons.injEq, Value.slice.injEq, and_true] at hcs
    obtain ⟨rfl, rfl, rfl⟩ := hcs
    simp only [if_true] at hmm
    subst hmm
    have hlen : ((List.range len).map S).length = len := by simp
    have hat : ∀ (j : Nat) (s : ByteArray), ((List.range len).map S)[j]? = some s → j < len ∧ s = S j := by
      intro j s hj
      have hjl : j < len := by
        have := (List.getElem?_eq_some_iff.1 hj).1
        simpa using this
      exact ⟨hjl, by simpa [List.getElem?_map, List.getElem?_range, hjl, eq_comm] using hj⟩
    by_cases hz0 : len = 0
    · subst hz0
      exact ⟨some a, [], m, 0, rfl, Nat.zero_le _, fun j s h => by simp at h, fun h => absurd rfl h, fun h => absurd rfl h⟩
    · obtain ⟨b, o, rfl, hb, hx⟩ := at_addr (n := m) (fun i hi => (hcell i hi).1) (by omega)
      refine ⟨_, (List.range len).map S, m, b, by rw [hlen], by rw [hlen]; omega, fun j s hj => ?_, fun _ => ⟨o, rfl, fun j s hj => ?_⟩, fun _ => hb⟩
      · obtain ⟨hjl, rfl⟩ := hat j s hj
        exact (hcell j (by omega)).2
      · obtain ⟨hjl, rfl⟩ := hat j s hj
        exact hx j (by omega)
/-- Stamps that came in. -/
theorem stamps_cells {w : World} {cs : List Value} {fuel : Nat} {x : DataW H × List MemPlace} (hf' : DataW.trod enc Tryz.prog w 0 (fun _ => true) true fuel 24 cs = some x) :
    ∃ (a : Option Addr) (l : List (Int × Int)) (cap g : Nat), cs = [.slice a l.length cap] ∧ SL w g a l ∧ l.length ≤ maxLen ∧ (l ≠ [] → g < w.heap.size) ∧ ∀ s ∈ l, (Lit.int .i64 s.1).wf = true ∧ (Lit.int .i64 s.2).wf = true := by
  rcases open_slice Tryz.underlying24 hf' with ⟨hcs, _⟩ | ⟨a, len, cap, m, n, D, Pl, hcs, _, hl, hm, hmm, hx, hi⟩
  · subst hcs
    exact ⟨none, [], 0, 0, rfl, fun h => absurd rfl h, Nat.zero_le _, fun h => absurd rfl h, fun s hs => (by simp at hs)⟩
  · subst hcs
    simp only [if_true] at hmm
    subst hmm
    have hone : ∀ i, i < len → ∃ q : Int × Int, w.cell? (a.add (i * 2)) = some (.int .i64 q.1) ∧ w.cell? ((a.add (i * 2)).add 1) = some (.int .i64 q.2) ∧ (Lit.int .i64 q.1).wf = true ∧ (Lit.int .i64 q.2).wf = true := by
      intro i hlt
      obtain ⟨cs', hc, ht⟩ := hi i (by omega)
      rw [cellsSt] at hc
      obtain ⟨_, hlen, hat⟩ := World.cells?_some hc
      match cs', hlen with
      | [c0, c1], _ =>
        obtain ⟨y0, y1, k, _, _, h0, h1⟩ := trod_struct2 Tryz.underlying42 ht
        have e0 : DataW.trod enc Tryz.prog w 0 (fun _ => true) true k 2 [c0] = some y0 := by simpa [cells_i64] using h0
        have e1 : DataW.trod enc Tryz.prog w 0 (fun _ => true) true k 3 [c1] = some y1 := by simpa [cells_int] using h1
        obtain ⟨x, hx0, _, wx⟩ := DataW.trod_int Tryz.underlying2 e0
        obtain ⟨y, hy0, _, wy⟩ := DataW.trod_int Tryz.underlying3 e1
        simp only [List.cons.injEq, and_true] at hx0 hy0
        subst hx0 hy0
        exact ⟨(x, y), by simpa [Addr.add] using hat 0 (by omega), hat 1 (by omega), wx, wy⟩
    obtain ⟨f, hf2⟩ : ∃ f : Nat → Int × Int, ∀ i, i < len → w.cell? (a.add (i * 2)) = some (.int .i64 (f i).1) ∧ w.cell? ((a.add (i * 2)).add 1) = some (.int .i64 (f i).2) ∧ (Lit.int .i64 (f i).1).wf = true ∧ (Lit.int .i64 (f i).2).wf = true :=
      ⟨fun i => if h : i < len then Classical.choose (hone i h) else (0, 0), fun i hlt => by simp only [hlt, dif_pos]; exact Classical.choose_spec (hone i hlt)⟩
    have hlen : ((List.range len).map f).length = len := by simp
    by_cases hz0 : len = 0
    · subst hz0
      exact ⟨some a, [], m, 0, rfl, fun h => absurd rfl h, Nat.zero_le _, fun h => absurd rfl h, fun s hs => (by simp at hs)⟩
    · have h00 := (hf2 0 (by omega)).1
      have e : a.add (0 * 2) = a := by rw [Nat.zero_mul]; unfold Addr.add; split <;> simp_all
      rw [e] at h00
      obtain ⟨b, o, rfl⟩ := addr_plain h00
      refine ⟨_, (List.range len).map f, m, b, by rw [hlen], fun _ => ⟨o, rfl, fun i x y hi' => ?_⟩, by rw [hlen]; omega, fun _ => World.block_lt_of_cell? _ _ h00, fun s hs => ?_⟩
      · have hil : i < len := by
          have := (List.getElem?_eq_some_iff.1 hi').1
          simpa using this
        have hfi : f i = (x, y) := by simpa [List.getElem?_map, List.getElem?_range, hil] using hi'
        obtain ⟨g0, g1, _, _⟩ := hf2 i hil
        rw [hfi] at g0 g1
        rw [Go.WideShapes.add_plain] at g0
        rw [Go.WideShapes.add_plain, Go.WideShapes.add_plain] at g1
        exact ⟨g0, g1⟩
      · obtain ⟨i, hi', rfl⟩ := List.mem_map.1 hs
        obtain ⟨_, _, w0, w1⟩ := hf2 i (List.mem_range.1 hi')
        exact ⟨w0, w1⟩
theorem open_stamps {r : Reach} {b0 : Nat} {w : World} {v : Value} {d : DataW H} {p : List MemPlace} (hv : Value.okWide Tryz.prog w r b0 24 v) (h : DataW.Trod enc Tryz.prog w 0 (fun _ => true) true 24 v d p) :
    ∃ (a : Option Addr) (l : List (Int × Int)) (cap g : Nat), v = .slice a l.length cap ∧ SL w g a l ∧ l.length ≤ maxLen ∧ (l ≠ [] → g < w.heap.size) ∧ ∀ s ∈ l, (Lit.int .i64 s.1).wf = true ∧ (Lit.int .i64 s.2).wf = true := by
  obtain ⟨a0, len, cap, rfl⟩ := okWide_slice Tryz.underlying24 hv
  obtain ⟨fuel, hf⟩ := h
  have hf' : DataW.trod enc Tryz.prog w 0 (fun _ => true) true fuel 24 [.slice a0 len cap] = some (d, p) := by simpa [Value.cells] using hf
  obtain ⟨a, l, cap', g, hcs, h⟩ := stamps_cells hf'
  simp only [List.cons.injEq, and_true] at hcs
  exact ⟨a, l, cap', g, hcs, h⟩
end

end S2
end Go.Proofs.YtjlkgbejldcklaaGreat
