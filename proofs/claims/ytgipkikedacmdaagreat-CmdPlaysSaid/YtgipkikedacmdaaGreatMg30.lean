/- The arguments of this stage's laws, opened: bytes, numbers, texts, stamps that came in; Clone, Open, Sum of bytes that came in. Conditions: as each theorem states. -/
import Derived.Lib.SmallJoins
import Derived.Deep.Slices
import Derived.Deep.Fields
import Derived.Deep.Strs
import Derived.ChangeSlices
import Derived.ChangeMaps5
import Derived.Test.YtgipkikedacmdaaGreatMg29
import Derived.Test.YtgipkikedacmdaaGreatMg12
set_option maxRecDepth 100000
set_option maxHeartbeats 16000000
namespace Go.Proofs.YtgipkikedacmdaaGreat
open Go.Lib renaming hid → hI
namespace S2
open Go.ChangeShapes Go.WideShapes Go.ChangeAt Go.RowKit Go.Joins Go.Deep
theorem own0 : ownKnob Tryz.prog.godebug = none := by kernel_rfl
theorem laid0 : laidOutB Tryz.prog = true := by kernel_rfl
theorem cellsSt : Tryz.prog.cellsOf 23 = 2 := by kernel_rfl
theorem cells_i64 : Tryz.prog.cellsOf 2 = 1 := by kernel_rfl
theorem cells_int : Tryz.prog.cellsOf 3 = 1 := by kernel_rfl
theorem cells_str : Tryz.prog.cellsOf 9 = 1 := by kernel_rfl
def Bw (w : World) (g : Nat) (v : Value) (l : List UInt8) : Prop :=
 ∃ a c, v = .slice a l.length c ∧ (a = none → l = [] ∧ c = 0) ∧ l.length ≤ maxLen ∧ (l ≠ [] → ∃ o, a = some ⟨g, o, none⟩ ∧ ∀ j x, l[j]? = some x → w.cell? ⟨g, o + j, none⟩ = some (bv x))
theorem Bw.keep {S : Nat → Prop} {w w' : World} {g : Nat} {v : Value} {l : List UInt8} (h : Bw w g v l) (k : Keeps S w w') (hg : l ≠ [] → ¬ S g) : Bw w' g v l := by
 obtain ⟨a, c, hv, h0, hl, hc⟩ := h
 exact ⟨a, c, hv, h0, hl, fun hne => let ⟨o, ha, hx⟩ := hc hne; ⟨o, ha, fun j x hj => k.cell (hg hne) (hx j x hj)⟩⟩
theorem Bs.bw {w : World} {g : Nat} {v : Value} {l : List UInt8} (h : Bs w g v l) : Bw w g v l := by
 rcases h with ⟨rfl, rfl⟩ | ⟨o, cap, rfl, h1, h2, h3⟩
 ·exact ⟨none, 0, rfl, fun _ => ⟨rfl, rfl⟩, Nat.zero_le _, fun h => absurd rfl h⟩
 ·exact ⟨_, cap, rfl, (fun h => by cases h), Nat.le_trans h1 h2, fun _ => ⟨o, rfl, h3⟩⟩
theorem Bw.src {w : World} {g : Nat} {v : Value} {l : List UInt8} (h : Bw w g v l) : Src Tryz.prog 1 32 v l.length (bvs l) w := by
 obtain ⟨a, c, rfl, h0, hl, hc⟩ := h
 cases a with
 | none =>
  obtain ⟨rfl, rfl⟩ := h0 rfl
  exact Src.ofNil w Tryz.underlying32 0
 | some a =>
  refine Src.ofSlice w Tryz.underlying32 a l.length c (bvs l) (by simp [bvs]) (fun j u hu => ?_) (bvs_one l)
  obtain ⟨x, hx, rfl⟩ := bvs_get hu
  obtain ⟨o, ha, hcc⟩ := hc (by rintro rfl; simp at hx)
  simp only [Option.some.injEq] at ha
  subst ha
  rw [add_plain]
  exact hcc j x hx
theorem Bw.lt {w : World} {g : Nat} {v : Value} {l : List UInt8} (h : Bw w g v l) (hne : l ≠ []) : g < w.heap.size := by
 obtain ⟨a, c, _, _, _, hc⟩ := h
 obtain ⟨o, _, hx⟩ := hc hne
 exact World.block_lt_of_cell? _ _ (hx 0 _ (List.getElem?_eq_getElem (List.length_pos_iff.2 hne)))
theorem clone_w (w : World) (g : Nat) (v : Value) (l : List UInt8) (h : Bw w g v l) (hlen : l.length ≤ 1099511627776) : Calls Tryz.prog 149 #[v] w (Made w l) := by
 have HB := hI h
 obtain ⟨a, c, rfl, h0, _, _⟩ := h
 cases a with
 | none =>
  obtain ⟨rfl, rfl⟩ := h0 rfl
  exact clone_any w g _ [] (.inl ⟨rfl, rfl⟩) hlen
 | some a =>
  have hq := fun w : World => Lib.run_eql_slice_nil (P := Tryz.prog) w 32 5 (some a) l.length c 0 0 Tryz.underlying32
  clear h0
  go_enter Tryz.func149, Tryz.ntmps149
  go_wp2_with (at_builtin; refine wpList_app rfl (.tmp 5) (.tmp 6) 32 rfl rfl rfl (row_empty _) (HB.out.keep (S := fun _ => False) (Keeps.alloc _ _ _) (fun _ h => h)).src (by simpa using hlen) ?_; intro v' w' g' h1 h2 h3; have H1 := hI h1; have H2 := hI h2; have H3 := hI h3; clear h1 h2 h3)
  go_ret
  refine ⟨_, g', rfl, by simpa using H1.out, ?_, ?_⟩
  ·rcases H3.out with e | e
   ·rw [e]; intro k hk; cases hk; exact Nat.le_refl _
   ·exact e.later (Keeps.alloc (fun _ => False) _ _)
  ·exact ((Below.refl _ _).alloc (Nat.le_refl _) _).grown H2.out (by simp) (fun k hk => by cases hk; exact Nat.le_refl _)
theorem Row.some_of {w : World} {g : Option Nat} {v : Value} {l : List UInt8} (h : Row w g v l) (hne : l ≠ []) : ∃ k, g = some k := by
 cases hg : g with
 | some k => exact ⟨k, rfl⟩
 | none =>
  rcases h.1.2 with ⟨_, h0⟩ | ⟨b, cap, cur, hv, _⟩
  ·exact absurd (List.eq_nil_of_length_eq_zero h0) hne
  ·have := h.2; rw [hg, hv] at this; cases this
theorem open_w (w : World) (g : Nat) (v : Value) (l : List UInt8) (h : Bw w g v l) (hlen : l.length ≤ 1099511627776) : Calls Tryz.prog 122 #[v] w (Opened w l) := by
 have HB := hI h
 clear h
 go_enter Tryz.func122, Tryz.ntmps122
 go_wp2_with (go_at_call 149; refine (clone_w _ g _ l HB.out hlen).mono ?_; rintro e w1 ⟨v1, g1, rfl, h1, h2, h3⟩; obtain ⟨a1, n1, c1, rfl⟩ := h1.form; have HR := hI h1; have HN := hI h2; have HW := hI h3; clear h1 h2 h3)
 go_ret
 refine ⟨w1.heap.size, g1.getD 0, rfl, ⟨_, heap_alloc_new w1 _, HR.out.bs.keep (Keeps.alloc (fun _ => False) _ _) (fun _ h => h), fun hne => ?_⟩, HW.out.size, fun hne => ?_, HW.out.alloc HW.out.size _⟩
 ·obtain ⟨k, rfl⟩ := HR.out.some_of hne
  exact Nat.ne_of_lt (HR.out.lt rfl)
 ·obtain ⟨k, rfl⟩ := HR.out.some_of hne
  exact HN.out k rfl
section
variable {H : Type} {enc : TypeId × Value → H}
theorem addr_plain {w : World} {a : Addr} {v : Value} (h : w.cell? a = some v) : ∃ b o, a = ⟨b, o, none⟩ := by
 obtain ⟨b, o, s⟩ := a
 have hs : s = none := World.cell?_spot h
 subst hs
 exact ⟨b, o, rfl⟩
theorem stamps_cells {w : World} {cs : List Value} {fuel : Nat} {x : DataW H × List MemPlace} (hf' : DataW.trod enc Tryz.prog w 0 (fun _ => true) true fuel 80 cs = some x) :
  ∃ (a : Option Addr) (l : List (Int × Int)) (cap g : Nat), cs = [.slice a l.length cap] ∧ SL w g a l ∧ l.length ≤ maxLen ∧ (l ≠ [] → g < w.heap.size) ∧ ∀ s ∈ l, (Lit.int .i64 s.1).wf = true ∧ (Lit.int .i64 s.2).wf = true := by
 rcases open_slice Tryz.underlying80 hf' with ⟨hcs, _⟩ | ⟨a, len, cap, m, n, D, Pl, hcs, _, hl, hm, hmm, hx, hi⟩
 ·subst hcs
  exact ⟨none, [], 0, 0, rfl, fun h => absurd rfl h, Nat.zero_le _, fun h => absurd rfl h, fun s hs => (by simp at hs)⟩
 ·subst hcs
  simp only [if_true] at hmm
  subst hmm
  have hone : ∀ i, i < len → ∃ q : Int × Int, w.cell? (a.add (i * 2)) = some (.int .i64 q.1) ∧ w.cell? ((a.add (i * 2)).add 1) = some (.int .i64 q.2) ∧ (Lit.int .i64 q.1).wf = true ∧ (Lit.int .i64 q.2).wf = true := by
   intro i hlt
   obtain ⟨cs', hc, ht⟩ := hi i (by omega)
   rw [cellsSt] at hc
   obtain ⟨_, hlen, hat⟩ := World.cells?_some hc
   match cs', hlen with
   | [c0, c1], _ =>
    obtain ⟨y0, y1, k, _, _, h0, h1⟩ := trod_struct2 Tryz.underlying23 ht
    have e0 : DataW.trod enc Tryz.prog w 0 (fun _ => true) true k 2 [c0] = some y0 := by simpa [cells_i64] using h0
    have e1 : DataW.trod enc Tryz.prog w 0 (fun _ => true) true k 3 [c1] = some y1 := by simpa [cells_int] using h1
    obtain ⟨x, hx0, _, wx⟩ := DataW.trod_int Tryz.underlying2 e0
    obtain ⟨y, hy0, _, wy⟩ := DataW.trod_int Tryz.underlying3 e1
    simp only [List.cons.injEq, and_true] at hx0 hy0
    subst hx0 hy0
    exact ⟨(x, y), by simpa [Addr.add] using hat 0 (by omega), hat 1 (by omega), wx, wy⟩
  obtain ⟨f, hf2⟩ : ∃ f : Nat → Int × Int, ∀ i, i < len → w.cell? (a.add (i * 2)) = some (.int .i64 (f i).1) ∧ w.cell? ((a.add (i * 2)).add 1) = some (.int .i64 (f i).2) ∧ (Lit.int .i64 (f i).1).wf = true ∧ (Lit.int .i64 (f i).2).wf = true :=
   ⟨fun i => if h : i < len then Classical.choose (hone i h) else (0, 0), fun i hlt => by simp only [hlt, dif_pos]; exact Classical.choose_spec (hone i hlt)⟩
  have hlen : ((List.range len).map f).length = len := by simp
  by_cases hz0 : len = 0
  ·subst hz0
   exact ⟨some a, [], m, 0, rfl, fun h => absurd rfl h, Nat.zero_le _, fun h => absurd rfl h, fun s hs => (by simp at hs)⟩
  ·have h00 := (hf2 0 (by omega)).1
   have e : a.add (0 * 2) = a := by rw [Nat.zero_mul]; unfold Addr.add; split <;> simp_all
   rw [e] at h00
   obtain ⟨b, o, rfl⟩ := addr_plain h00
   refine ⟨_, (List.range len).map f, m, b, by rw [hlen], fun _ => ⟨o, rfl, fun i x y hi' => ?_⟩, by rw [hlen]; omega, fun _ => World.block_lt_of_cell? _ _ h00, fun s hs => ?_⟩
   ·have hil : i < len := by
     have := (List.getElem?_eq_some_iff.1 hi').1
     simpa using this
    have hfi : f i = (x, y) := by simpa [List.getElem?_map, List.getElem?_range, hil] using hi'
    obtain ⟨g0, g1, _, _⟩ := hf2 i hil
    rw [hfi] at g0 g1
    rw [Go.WideShapes.add_plain] at g0
    rw [Go.WideShapes.add_plain, Go.WideShapes.add_plain] at g1
    exact ⟨g0, g1⟩
   ·obtain ⟨i, hi', rfl⟩ := List.mem_map.1 hs
    obtain ⟨_, _, w0, w1⟩ := hf2 i (List.mem_range.1 hi')
    exact ⟨w0, w1⟩
end
end S2
end Go.Proofs.YtgipkikedacmdaaGreat
