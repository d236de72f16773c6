/- FlatWidths: how many bytes a number, a text, stamps, a list, a truth have: whatever is laid, the law returns true and leaves its arguments as they were. Conditions: none. -/
import Derived.SizedLaws
import Derived.Test.YtddbmibfebhmjaaMg08
set_option maxRecDepth 100000
set_option maxHeartbeats 16000000
namespace Go.Proofs.Ytddbmibfebhmjaa
namespace S2
open Go.ChangeShapes Go.WideShapes Go.ChangeAt Go.RowKit Go.Deep
theorem law_lift_sized {C : Checked} {os : Os} {f : FuncId} {fn : Func} {s : ChangeSpec} {H : Type} {enc : TypeId × Value → H} (own : ownKnob C.prog.godebug = none) (started : os.Started) (noInit : C.prog.inits.idxOf? f = none) (hfn : C.prog.funcs[f]? = some fn)
  (hl : laidOutB C.prog = true) (hvars : s.vars = []) (hpar : fn.params.toList.all (fun t => C.prog.readableRec t && decide (t < C.prog.types.size)) = true)
  (hres : ∀ (W' : World) (b : Nat) (sp : Nat → Bool) (hd : Bool), DataW.TrodAll enc C.prog W' b sp hd fn.resultTypes.toList ((Value.bool true).resultList fn.resultTypes.size) [.lit (.bool true)] [])
  (hspec : ∀ ds : List (DataW H), ds.length = fn.params.toList.length → (s.fn H (ds ++ [])).results = [.lit (.bool true)] ∧ (s.fn H (ds ++ [])).args = ds ∧ (s.fn H (ds ++ [])).vars = [])
  (witness : ∃ (w : World) (tape : Tape) (i : Input), w.os = os ∧ (w.forCall tape i).Shaped C.prog ∧ i.vars = [] ∧ Input.okWide C.prog (w.forCall tape i) .any w.heap.size f i ∧
   s.pre6 enc C.prog fn [] false (w.forCall tape i).memory i.args ∧ Assume.holds {} C.prog (lone (Frame.enter C.prog f i.args .normal) [] (w.forCall tape i)))
  (contract : ∀ (W : World) (base : Nat) (args : Array Value) (ds : List (DataW H)) (before : List MemPlace),
   (∀ (j : Nat) t v, fn.params[j]? = some t → args[j]? = some v → Value.okWide C.prog W .any base t v) →
   DataW.TrodAll enc C.prog W 0 (fun _ => true) true fn.params.toList args.toList ds before → (∀ p ∈ before, p.block < W.heap.size) →
   (DataW.weightsEach C.prog (fn.params.toList ++ s.plain.varTypes C.prog) (ds ++ [])).all (· ≤ reachBytes) = true →
   Calls C.prog f args W fun e W' => e = .returned (.bool true) ∧ Below W.heap.size W W') :
  ReturnsInHanded {} C os f .any (s.pre6 enc C.prog fn [] false) (s.post enc C.prog fn false true false false) := by
 refine returnsInHanded_of_change_sized (C := C) own started noInit hfn witness ?_
 intro W base args ds gs before hval hW _ hsz _
 have hW' := hW
 have hlt := hW.lt
 obtain ⟨p, q, hA, hV, rfl, hfz, hnd⟩ := hW
 rw [hvars] at hV
 obtain ⟨rfl, rfl⟩ := trodVars_none hV
 simp only [List.append_nil] at hlt hW'
 have hlen : ∀ {ts : List TypeId} {vs : List Value} {ds : List (DataW H)} {ps : List MemPlace}, DataW.TrodAll enc C.prog W 0 (fun _ => true) true ts vs ds ps → ds.length = ts.length := by
  intro ts
  induction ts with
  | nil =>
   intro vs ds ps h
   cases vs <;> cases ds <;> simp_all [DataW.TrodAll]
  | cons t ts ih =>
   intro vs ds ps h
   obtain ⟨v, vs', d, ds', p, q, rfl, rfl, _, _, h2⟩ := trodAll_cons h
   simp [ih h2]
 obtain ⟨h1, h2, h3⟩ := hspec ds (hlen hA)
 refine (contract W base args ds p hval hA hlt hsz).mono fun e W' ⟨he, hb⟩ => ?_
 subst he
 refine ⟨_, rfl, ds, [], p, [], p, [], hW', ?_, ?_, ?_, ?_, fun h => by cases h⟩
 ·rw [h1]; exact hres _ _ _ _
 ·rw [h2]; exact trodAll_below hl hb hpar hA hlt (fun x hx => by simpa using hlt x hx)
 ·rw [h3, hvars]; rfl
 ·exact World.keptBut_mono (fun x hx => ⟨hx, .inr (.inl hx)⟩) (hb.frame (· ∈ p))
section
variable {H : Type} {enc : TypeId × Value → H}
end
end S2
end Go.Proofs.Ytddbmibfebhmjaa

namespace Go.Proofs.Ytddbmibfebhmjaa
namespace S2
open Go.ChangeShapes Go.WideShapes Go.ChangeAt Go.RowKit Go.Joins Go.Deep
theorem Bw.form {w : World} {g : Nat} {v : Value} {l : List UInt8} (h : Bw w g v l) : ∃ a c, v = .slice a l.length c := by
 obtain ⟨a, c, hv, _⟩ := h
 exact ⟨a, c, hv⟩
theorem Bw.at {w : World} {g : Nat} {v : Value} {l : List UInt8} (h : Bw w g v l) {j : Nat} {x : UInt8} (hx : l[j]? = some x) : ∃ o c, v = .slice (some ⟨g, o, none⟩) l.length c ∧ w.cell? ⟨g, o + j, none⟩ = some (bv x) := by
 obtain ⟨a, c, hv, _, _, hc⟩ := h
 obtain ⟨o, rfl, hcc⟩ := hc (by rintro rfl; simp at hx)
 exact ⟨o, c, hv, hcc j x hx⟩

theorem IL.place {w : World} {g : Nat} {a : Option Addr} {l : List Int} (h : IL w g a l) (hg : l ≠ [] → g < w.heap.size) (k : Nat) : ∃ g', IL w g' a l ∧ (g' < w.heap.size ∨ g' = k) := by
 by_cases hl : l = []
 ·subst hl; exact ⟨k, fun h => absurd rfl h, .inr rfl⟩
 ·exact ⟨g, h, .inl (hg hl)⟩
theorem TL.place {w : World} {g : Nat} {a : Option Addr} {l : List ByteArray} (h : TL w g a l) (hg : l ≠ [] → g < w.heap.size) (k : Nat) : ∃ g', TL w g' a l ∧ (g' < w.heap.size ∨ g' = k) := by
 by_cases hl : l = []
 ·subst hl; exact ⟨k, fun h => absurd rfl h, .inr rfl⟩
 ·exact ⟨g, h, .inl (hg hl)⟩
theorem PenAt.beside {w w' : World} {b b' : Nat} {r r' r'' : Option Nat} {l : List UInt8} (h : PenAt w b r l) (k : PenStep b' r' r'' w w') (h1 : b ≠ b') (h2 : r ≠ some b') (h3 : r' ≠ some b) (h4 : ∀ x, r = some x → r' ≠ some x) : PenAt w' b r l :=
 h.keep k.keeps (fun e => by rcases e with e | e; exact h1 e; exact h3 e) fun x hx e => by
  rcases e with e | e
  ·subst e; exact h2 hx
  ·exact h4 x hx e
theorem PenAt.rowLt {w : World} {b k : Nat} {r : Option Nat} {l : List UInt8} (h : PenAt w b r l) (hr : r = some k) : k < w.heap.size := by
 obtain ⟨_, _, _, h, _⟩ := h
 exact h.lt hr
end S2
end Go.Proofs.Ytddbmibfebhmjaa
