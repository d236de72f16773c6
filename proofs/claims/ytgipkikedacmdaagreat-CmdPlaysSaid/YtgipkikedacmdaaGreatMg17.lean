/- From a walk to a row, the form's own reach handed to the walk: each list that came in takes less than 2^47 bytes. Conditions: as law_lift. -/
import Derived.SizedLaws
import Derived.Test.YtgipkikedacmdaaGreatMg15
import Derived.Test.YtgipkikedacmdaaGreatMg13
import Derived.Test.YtgipkikedacmdaaGreatMg12
set_option maxRecDepth 100000
set_option maxHeartbeats 16000000
set_option linter.unusedVariables false
namespace Go.Proofs.YtgipkikedacmdaaGreat
open S1
namespace SD
open Go.ChangeShapes Go.WideShapes Go.ChangeAt Go.RowKit Go.Joins Go.Deep
theorem cellsDep : Tryz.prog.cellsOf 82 = 2 := by kernel_rfl
theorem bytesSt : Tryz.prog.bytesOf 23 = 16 := by kernel_rfl
theorem cells_i6 : Tryz.prog.cellsOf 3 = 1 := by kernel_rfl
theorem cells_ids : Tryz.prog.cellsOf 80 = 1 := by kernel_rfl
def WfD (l : List Dp) : Prop := ∀ s ∈ l, (Lit.int .i64 s.sh).wf = true ∧ ∀ i ∈ s.ids, (Lit.int .i64 i.1).wf = true ∧ (Lit.int .i64 i.2).wf = true
section
variable {H : Type} {enc : TypeId × Value → H}
theorem weightsAll_mem6 {P : Program} {e : TypeId} {d : DataW H} {n : Nat} (hn : n ∈ d.weights P e) : ∀ {l : List (DataW H)}, d ∈ l → n ∈ DataW.weightsAll P e l
 | y :: r, h => by
  unfold DataW.weightsAll
  rcases List.mem_cons.1 h with rfl | h
  ·exact List.mem_append_left _ hn
  ·exact List.mem_append_right _ (weightsAll_mem6 hn h)
theorem weights_elem6 {P : Program} {t e : TypeId} (ht : P.underlying t = some (.slice e)) {elems spare : List (DataW H)} {d : DataW H} (hd : d ∈ elems) {n : Nat} (hn : n ∈ d.weights P e) : n ∈ (DataW.slice elems spare : DataW H).weights P t := by
 simp only [DataW.weights, ht]
 exact List.mem_cons_of_mem _ (List.mem_append_left _ (weightsAll_mem6 hn hd))
theorem deps_cells {w : World} {cs : List Value} {fuel : Nat} {x : DataW H × List MemPlace} (hf' : DataW.trod enc Tryz.prog w 0 (fun _ => true) true fuel 25 cs = some x) :
  ∃ (a : Option Addr) (l : List Dp) (cap : Nat), cs = [.slice a l.length cap] ∧ Dl w a l ∧ l.length ≤ 9223372036854775807 ∧ (a = none → cap = 0) ∧ l.length ≤ cap ∧ WfD l ∧ (∀ s ∈ l, s.ids.length ≤ 9223372036854775807) ∧ ∀ s ∈ l, s.ids.length = 0 ∨ ∃ n ∈ x.1.weights Tryz.prog 25, s.ids.length ≤ n := by
 rcases open_slice Tryz.underlying25 hf' with ⟨hcs, _⟩ | ⟨a, len, cap, m, n, D, Pl, hcs, _, hl, hm, hmm, hx, hi⟩
 ·exact ⟨none, [], 0, hcs, Dl.nil _ _, Nat.zero_le _, fun _ => rfl, Nat.le_refl _, fun s h => (by cases h), fun s h => (by cases h), fun s h => (by cases h)⟩
 ·subst hcs
  simp only [if_true] at hmm
  subst hmm
  have hone : ∀ i, i < len → ∃ q : Dp, w.cell? (a.add (i * 2)) = some (.int .i64 q.sh) ∧ w.cell? ((a.add (i * 2)).add 1) = some (ilD q) ∧ IdsAt w q ∧ (Lit.int .i64 q.sh).wf = true ∧ (∀ i ∈ q.ids, (Lit.int .i64 i.1).wf = true ∧ (Lit.int .i64 i.2).wf = true) ∧ q.ids.length ≤ 9223372036854775807 ∧ (q.ids.length = 0 ∨ ∃ n ∈ (D i).weights Tryz.prog 82, q.ids.length ≤ n) := by
   intro i hlt
   obtain ⟨cs', hc, ht⟩ := hi i (by omega)
   rw [cellsDep] at hc
   obtain ⟨_, hlen, hat⟩ := World.cells?_some hc
   match cs', hlen with
   | [c0, c1], _ =>
    obtain ⟨y0, y1, k, hf, hd, h0, h1⟩ := trod_struct2 Tryz.underlying82 ht
    have e0 : DataW.trod enc Tryz.prog w 0 (fun _ => true) true k 3 [c0] = some y0 := by simpa [cells_i6] using h0
    have e1 : DataW.trod enc Tryz.prog w 0 (fun _ => true) true k 80 [c1] = some y1 := by simpa [cells_ids] using h1
    obtain ⟨x, hx0, _, wx⟩ := DataW.trod_int Tryz.underlying3 e0
    obtain ⟨na, nl, nc, hn0, hn1, hn2, hn3, _, hn5⟩ := stamps_cells e1
    have hcap : nl.length ≤ nc := by
     rcases open_slice Tryz.underlying80 e1 with ⟨hcs2, _⟩ | ⟨a2, len2, cap2, _, _, _, _, hcs2, _, hl2, _⟩
     ·rw [hn0] at hcs2
      simp only [List.cons.injEq, Value.slice.injEq, and_true] at hcs2
      omega
     ·rw [hn0] at hcs2
      simp only [List.cons.injEq, Value.slice.injEq, and_true] at hcs2
      obtain ⟨_, h5, h6⟩ := hcs2
      omega
    have hwt : nl.length = 0 ∨ ∃ n ∈ (D i).weights Tryz.prog 82, nl.length ≤ n := by
     rcases open_slice Tryz.underlying80 e1 with ⟨hcs2, _⟩ | ⟨a2, len2, cap2, m2, n2, D2, Pl2, hcs2, _, hl2, _, hm2, hx2, _⟩
     ·rw [hn0] at hcs2
      simp only [List.cons.injEq, Value.slice.injEq, and_true] at hcs2
      exact .inl hcs2.2.1
     ·rw [hn0] at hcs2
      simp only [List.cons.injEq, Value.slice.injEq, and_true] at hcs2
      obtain ⟨_, h5, _⟩ := hcs2
      have hD : D i = .agg [y0.1, y1.1] := congrArg Prod.fst hf
      refine .inr ⟨?nn, ?mem, ?le⟩
      case mem =>
       rw [hD]
       simp only [DataW.weights, Tryz.underlying82]
       refine List.mem_append_right _ (List.mem_append_left _ ?_)
       rw [hx2]
       simp only [DataW.weights, Tryz.underlying80]
       exact List.mem_cons_self
      case le =>
       rw [bytesSt]
       simp only [List.length_map, List.length_range]
       omega
    simp only [List.cons.injEq, and_true] at hx0 hn0
    subst hx0 hn0
    exact ⟨⟨x, na, nc, nl⟩, by simpa [Addr.add] using hat 0 (by omega), hat 1 (by omega), ⟨hn1, hn3, hcap⟩, wx, hn5, hn2, hwt⟩
  obtain ⟨f, hf2⟩ : ∃ f : Nat → Dp, ∀ i, i < len → w.cell? (a.add (i * 2)) = some (.int .i64 (f i).sh) ∧ w.cell? ((a.add (i * 2)).add 1) = some (ilD (f i)) ∧ IdsAt w (f i) ∧ (Lit.int .i64 (f i).sh).wf = true ∧ (∀ j ∈ (f i).ids, (Lit.int .i64 j.1).wf = true ∧ (Lit.int .i64 j.2).wf = true) ∧ (f i).ids.length ≤ 9223372036854775807 ∧ ((f i).ids.length = 0 ∨ ∃ n ∈ (D i).weights Tryz.prog 82, (f i).ids.length ≤ n) :=
   ⟨fun i => if h : i < len then Classical.choose (hone i h) else ⟨0, none, 0, []⟩, fun i hlt => by simp only [hlt, dif_pos]; exact Classical.choose_spec (hone i hlt)⟩
  have hlen : ((List.range len).map f).length = len := by simp
  have hat : ∀ (j : Nat) (s : Dp), ((List.range len).map f)[j]? = some s → j < len ∧ s = f j := by
   intro j s hj
   have hjl : j < len := by
    have := (List.getElem?_eq_some_iff.1 hj).1
    simpa using this
   exact ⟨hjl, by simpa [List.getElem?_map, List.getElem?_range, hjl, eq_comm] using hj⟩
  have hmem : ∀ s ∈ (List.range len).map f, ∃ i, i < len ∧ s = f i := by
   intro s hs
   obtain ⟨i, hi2, rfl⟩ := List.mem_map.1 hs
   exact ⟨i, List.mem_range.1 hi2, rfl⟩
  unfold maxLen at hm
  refine ⟨some a, (List.range len).map f, _, by rw [hlen], ⟨fun s hs => ?_, fun hne => ?_⟩, by rw [hlen]; omega, fun h => (by cases h), by rw [hlen]; exact hl, fun s hs => ?_, fun s hs => ?_, fun s hs => ?_⟩
  ·obtain ⟨i, hil, rfl⟩ := hmem s hs
   exact (hf2 i hil).2.2.1
  ·have h0 : 0 < len := by
    rcases Nat.eq_zero_or_pos len with h | h
    ·subst h
     exact absurd rfl hne
    ·exact h
   have h00 := (hf2 0 h0).1
   have e : a.add (0 * 2) = a := by rw [Nat.zero_mul]; unfold Addr.add; split <;> simp_all
   rw [e] at h00
   obtain ⟨b, off, spot⟩ := a
   have hspot : spot = none := World.cell?_spot h00
   subst hspot
   refine ⟨b, off, rfl, World.block_lt_of_cell? _ _ h00, fun i s hi' => ?_⟩
   obtain ⟨hil, rfl⟩ := hat i s hi'
   obtain ⟨g0, g1, _⟩ := hf2 i hil
   rw [Go.WideShapes.add_plain] at g0
   rw [Go.WideShapes.add_plain, Go.WideShapes.add_plain] at g1
   exact ⟨g0, g1⟩
  ·obtain ⟨i, hil, rfl⟩ := hmem s hs
   exact ⟨(hf2 i hil).2.2.2.1, (hf2 i hil).2.2.2.2.1⟩
  ·obtain ⟨i, hil, rfl⟩ := hmem s hs
   exact (hf2 i hil).2.2.2.2.2.1
  ·obtain ⟨i, hil, rfl⟩ := hmem s hs
   rcases (hf2 i hil).2.2.2.2.2.2 with h | ⟨n, hn, h⟩
   ·exact .inl h
   ·refine .inr ⟨n, ?_, h⟩
    rw [hx]
    exact weights_elem6 Tryz.underlying25 (List.mem_map.2 ⟨i, List.mem_range.2 hil, rfl⟩) hn
end
end SD
end Go.Proofs.YtgipkikedacmdaaGreat

namespace Go.Proofs.YtgipkikedacmdaaGreat
namespace S1
open Go.ChangeShapes Go.WideShapes Go.ChangeAt Go.RowKit Go.Deep
theorem law_lift_sized {C : Checked} {os : Os} {f : FuncId} {fn : Func} {s : ChangeSpec} {H : Type} {enc : TypeId × Value → H} (own : ownKnob C.prog.godebug = none) (started : os.Started) (noInit : C.prog.inits.idxOf? f = none) (hfn : C.prog.funcs[f]? = some fn)
  (hl : laidOutB C.prog = true) (hvars : s.vars = []) (hpar : fn.params.toList.all (fun t => C.prog.readableRec t && decide (t < C.prog.types.size)) = true)
  (hres : ∀ (W' : World) (b : Nat) (sp : Nat → Bool) (hd : Bool), DataW.TrodAll enc C.prog W' b sp hd fn.resultTypes.toList ((Value.bool true).resultList fn.resultTypes.size) [.lit (.bool true)] [])
  (hspec : ∀ ds : List (DataW H), ds.length = fn.params.toList.length → (s.fn H (ds ++ [])).results = [.lit (.bool true)] ∧ (s.fn H (ds ++ [])).args = ds ∧ (s.fn H (ds ++ [])).vars = [])
  (witness : ∃ (w : World) (tape : Tape) (i : Input), w.os = os ∧ (w.forCall tape i).Shaped C.prog ∧ i.vars = [] ∧ Input.okWide C.prog (w.forCall tape i) .any w.heap.size f i ∧
   s.pre6 enc C.prog fn [] false (w.forCall tape i).memory i.args ∧ Assume.holds {} C.prog (lone (Frame.enter C.prog f i.args .normal) [] (w.forCall tape i)))
  (contract : ∀ (W : World) (base : Nat) (args : Array Value) (ds : List (DataW H)) (before : List MemPlace),
   (∀ (j : Nat) t v, fn.params[j]? = some t → args[j]? = some v → Value.okWide C.prog W .any base t v) →
   DataW.TrodAll enc C.prog W 0 (fun _ => true) true fn.params.toList args.toList ds before → (∀ p ∈ before, p.block < W.heap.size) →
   (DataW.weightsEach C.prog (fn.params.toList ++ s.plain.varTypes C.prog) (ds ++ [])).all (· ≤ reachBytes) = true →
   Calls C.prog f args W fun e W' => e = .returned (.bool true) ∧ Below W.heap.size W W') :
  ReturnsInHanded {} C os f .any (s.pre6 enc C.prog fn [] false) (s.post enc C.prog fn false true false false) := by
 refine returnsInHanded_of_change_sized (C := C) own started noInit hfn witness ?_
 intro W base args ds gs before hval hW _ hsz _
 have hW' := hW
 have hlt := hW.lt
 obtain ⟨p, q, hA, hV, rfl, hfz, hnd⟩ := hW
 rw [hvars] at hV
 obtain ⟨rfl, rfl⟩ := trodVars_none hV
 simp only [List.append_nil] at hlt hW'
 have hlen : ∀ {ts : List TypeId} {vs : List Value} {ds : List (DataW H)} {ps : List MemPlace}, DataW.TrodAll enc C.prog W 0 (fun _ => true) true ts vs ds ps → ds.length = ts.length := by
  intro ts
  induction ts with
  | nil =>
   intro vs ds ps h
   cases vs <;> cases ds <;> simp_all [DataW.TrodAll]
  | cons t ts ih =>
   intro vs ds ps h
   obtain ⟨v, vs', d, ds', p, q, rfl, rfl, _, _, h2⟩ := trodAll_cons h
   simp [ih h2]
 obtain ⟨h1, h2, h3⟩ := hspec ds (hlen hA)
 refine (contract W base args ds p hval hA hlt hsz).mono fun e W' ⟨he, hb⟩ => ?_
 subst he
 refine ⟨_, rfl, ds, [], p, [], p, [], hW', ?_, ?_, ?_, ?_, fun h => by cases h⟩
 ·rw [h1]; exact hres _ _ _ _
 ·rw [h2]; exact trodAll_below hl hb hpar hA hlt (fun x hx => by simpa using hlt x hx)
 ·rw [h3, hvars]; rfl
 ·exact World.keptBut_mono (fun x hx => ⟨hx, .inr (.inl hx)⟩) (hb.frame (· ∈ p))
section
variable {H : Type} {enc : TypeId × Value → H}
end
end S1
end Go.Proofs.YtgipkikedacmdaaGreat
